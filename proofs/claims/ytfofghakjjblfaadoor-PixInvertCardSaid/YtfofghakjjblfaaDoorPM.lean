/- What came in, opened: the table that start-up lays, pixels, lists of numbers. -/
import Derived.Test.YtfofghakjjblfaaDoorRows
import Derived.Test.YtfofghakjjblfaaDoorPG
import Derived.ProofKit
import Derived.LaidMore
import Derived.OpenShut
import Derived.ChangeOld
import Derived.Below
import Derived.Deep.Matrix
import Derived.MakeChecks
import Derived.Laws.IdiomArrays
namespace Go.Proofs.YtfofghakjjblfaaDoor
open Go.ChangeShapes Go.WideShapes Go.ChangeAt Go.RowKit
set_option linter.unusedVariables false

abbrev table : List (String × DataW Unit) := [("scumble/pix.ways", Rows.laid_scumble_pix_ways)]
theorem gWays : Tryd.prog.globalNamed "scumble/pix.ways" = some 0 := by kernel_rfl
theorem tWays : (Tryd.prog.globals[0]?).map (·.type) = some 44 := by kernel_rfl
theorem cells42 : Tryd.prog.cellsOf 42 = 1 := by kernel_rfl
theorem cells43 : Tryd.prog.cellsOf 43 = 2 := by kernel_rfl

/-- The door's own heap meets the condition. -/
theorem door_met (os : Os) (args : Array Value) : laidMetH Tryd.prog table ((World.doorLaid Tryd.prog 26 os).forCall (fun _ _ => 0) ⟨#[], args, []⟩).memory :=
  laidMetH_of_parts3 (fuel := 8) (laidMet_of_run' 8 (by kernel_rfl) (by kernel_rfl)) (by kernel_rfl) (by kernel_rfl)

theorem ways_of_laid {W : World} (h : laidMetH Tryd.prog table W) : Ways W := by
  rw [MakeChecks.laidMetH_plain _ _ _ (by kernel_rfl)] at h
  obtain ⟨ps, ⟨g0, t0, cs0, f0, p0, q0, hg0, ht0, hv0, hd0, _, _⟩, _, _⟩ := h
  obtain rfl := Option.some.inj (gWays.symm.trans hg0)
  obtain rfl := Option.some.inj (tWays.symm.trans ht0)
  obtain ⟨xs, m1, rfl, hx1, hlen, hn, hel⟩ := DataW.trod_array Tryd.underlying44 hd0
  simp only [Prod.mk.injEq] at hx1
  have e5 : xs.map (·.1) = (List.range 12).map (fun n => DataW.agg [.lit (.int .i64 (Px.wayRow n).1), .lit (.int .i64 (Px.wayRow n).2)]) := by
    have := hx1.1
    simp only [Rows.laid_scumble_pix_ways, DataW.agg.injEq] at this
    rw [← this]
    rfl
  intro n hn
  have h0 := hel n hn
  rw [cells43] at h0
  have hxn : n < xs.length := by omega
  rw [List.getElem?_eq_getElem hxn] at h0
  obtain ⟨ys, m2, e1, hx2, hlen2, _, hel2⟩ := DataW.trod_array Tryd.underlying43 h0
  have e4 : (xs.map (·.1))[n]? = some xs[n].1 := by rw [List.getElem?_map, List.getElem?_eq_getElem hxn]; rfl
  rw [e5, List.getElem?_map, List.getElem?_range hn, hx2] at e4
  simp only [Option.map_some, Option.some.injEq, DataW.agg.injEq] at e4
  have key : ∀ i, i < 2 → ∃ k : Int, cs0[n * 2 + i]? = some (.int .i64 k) ∧ (ys.map (·.1))[i]? = some (.lit (.int .i64 k)) := by
    intro i hi
    have h1 := hel2 i hi
    rw [cells42, Nat.mul_one] at h1
    have hyi : i < ys.length := by omega
    rw [List.getElem?_eq_getElem hyi] at h1
    obtain ⟨k, q1, q2, _⟩ := DataW.trod_int Tryd.underlying42 h1
    refine ⟨k, ?_, by rw [List.getElem?_map, List.getElem?_eq_getElem hyi, q2]; rfl⟩
    have e3 : ((((cs0.toList.drop (n * 2)).take 2).drop i).take 1)[0]? = some (.int .i64 k) := by rw [q1]; rfl
    rw [List.getElem?_take_of_lt (by omega), List.getElem?_drop, List.getElem?_take_of_lt (by omega), List.getElem?_drop, Nat.add_zero, Array.getElem?_toList] at e3
    exact e3
  obtain ⟨k0, a0, b0⟩ := key 0 (by omega)
  obtain ⟨k1, a1, b1⟩ := key 1 (by omega)
  rw [← e4] at b0 b1
  simp only [List.getElem?_cons_zero, List.getElem?_cons_succ, Option.some.injEq, DataW.lit.injEq, Lit.int.injEq, true_and] at b0 b1
  rw [World.var?_cell hg0 hv0 (n * 2), World.var?_cell hg0 hv0 (n * 2 + 1), b0, b1]
  exact ⟨a0, a1⟩

theorem list4 {α : Type} : ∀ (l : List α), l.length = 4 → ∃ a b c d, l = [a, b, c, d]
  | [a, b, c, d], _ => ⟨a, b, c, d, rfl⟩
theorem open_four {H : Type} {enc : TypeId × Value → H} {W : World} {base : Nat} {v : Value} {d : DataW H} {p : List MemPlace} (hv : Value.okWide Tryd.prog W .any base 26 v)
    (h : DataW.Trod enc Tryd.prog W 0 (fun _ => true) true 26 v d p) : ∃ q : Px.Pix, v = .agg #[.int .i64 q.r, .int .i64 q.g, .int .i64 q.b, .int .i64 q.a] := by
  obtain ⟨cs, rfl, hsz, _⟩ : ∃ cs, v = .agg cs ∧ cs.size = Tryd.prog.cellsOf 26 ∧ Row.okWide Tryd.prog W .any base 26 cs := by
    simpa [Value.okWide, Tryd.underlying26] using hv
  rw [show Tryd.prog.cellsOf 26 = 4 by kernel_rfl] at hsz
  obtain ⟨l⟩ := cs
  obtain ⟨c0, c1, c2, c3, rfl⟩ := list4 l hsz
  obtain ⟨fuel, hf⟩ := h
  obtain ⟨y0, y1, y2, y3, m, hx, hy0, hy1, hy2, hy3⟩ := trod_array4 Tryd.underlying26 (show Tryd.prog.cellsOf 3 = 1 by kernel_rfl) hf
  obtain ⟨x0, e0, rfl, w0⟩ := DataW.trod_int Tryd.underlying3 hy0
  obtain ⟨x1, e1, rfl, w1⟩ := DataW.trod_int Tryd.underlying3 hy1
  obtain ⟨x2, e2, rfl, w2⟩ := DataW.trod_int Tryd.underlying3 hy2
  obtain ⟨x3, e3, rfl, w3⟩ := DataW.trod_int Tryd.underlying3 hy3
  simp at e0 e1 e2 e3
  subst e0 e1 e2 e3
  exact ⟨⟨x0, x1, x2, x3⟩, rfl⟩
theorem Yes.below {w w' : World} {e : Ending} (h : Yes w e w') : e = .returned (.bool true) ∧ Below w.heap.size w w' := ⟨h.1, h.2.below (Nat.le_refl _) (fun _ _ h => h)⟩
end Go.Proofs.YtfofghakjjblfaaDoor
