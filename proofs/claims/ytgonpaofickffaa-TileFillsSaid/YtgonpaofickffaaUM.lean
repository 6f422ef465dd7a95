/- A step that came in, by its seven numbers. -/
import Derived.Test.YtgonpaofickffaaUL
import Derived.Test.YtgonpaofickffaaUA
namespace Go.Proofs.Ytgonpaofickffaa
open Go.ChangeShapes Go.WideShapes Go.ChangeAt Go.RowKit

set_option maxRecDepth 100000 in
theorem open_op {H : Type} {enc : TypeId × Value → H} {W : World} {base : Nat} {v : Value} {d : DataW H} {p : List MemPlace} (hv : Value.okWide Try.prog W .any base 39 v)
    (h : DataW.Trod enc Try.prog W 0 (fun _ => true) true 39 v d p) : ∃ k n x y a b c : Int, v = .agg #[.int .i64 k, .int .i64 n, .int .i64 x, .int .i64 y, .int .i64 a, .int .i64 b, .int .i64 c] ∧ I64 x ∧ I64 y ∧ I64 a ∧ I64 b := by
  obtain ⟨cs, rfl, hsz, _⟩ : ∃ cs, v = .agg cs ∧ cs.size = Try.prog.cellsOf 39 ∧ Row.okWide Try.prog W .any base 39 cs := by
    simpa [Value.okWide, Try.underlying39] using hv
  rw [cells39] at hsz
  obtain ⟨l⟩ := cs
  match l, hsz with
  | [v0, v1, v2, v3, v4, v5, v6], _ =>
    obtain ⟨fuel, hf⟩ := h
    have hf2 : DataW.trod enc Try.prog W 0 (fun _ => true) true fuel 39 [v0, v1, v2, v3, v4, v5, v6] = some (d, p) := hf
    obtain ⟨ys, n', _, _, _, hyl, hff⟩ := DataW.trod_struct Try.underlying39 hf2
    match ys, hyl with
    | [y0, y1, y2, y3, y4, y5, y6], _ =>
      have f0 : DataW.trod enc Try.prog W 0 (fun _ => true) true n' 3 (List.take (Try.prog.cellsOf 3) [v0, v1, v2, v3, v4, v5, v6]) = some y0 := hff 0 _ rfl
      rw [cells3] at f0
      have f1 : DataW.trod enc Try.prog W 0 (fun _ => true) true n' 3 (List.take (Try.prog.cellsOf 3) [v1, v2, v3, v4, v5, v6]) = some y1 := hff 1 _ rfl
      rw [cells3] at f1
      have f2 : DataW.trod enc Try.prog W 0 (fun _ => true) true n' 3 (List.take (Try.prog.cellsOf 3) [v2, v3, v4, v5, v6]) = some y2 := hff 2 _ rfl
      rw [cells3] at f2
      have f3 : DataW.trod enc Try.prog W 0 (fun _ => true) true n' 3 (List.take (Try.prog.cellsOf 3) [v3, v4, v5, v6]) = some y3 := hff 3 _ rfl
      rw [cells3] at f3
      have f4 : DataW.trod enc Try.prog W 0 (fun _ => true) true n' 3 (List.take (Try.prog.cellsOf 3) [v4, v5, v6]) = some y4 := hff 4 _ rfl
      rw [cells3] at f4
      have f5 : DataW.trod enc Try.prog W 0 (fun _ => true) true n' 3 (List.take (Try.prog.cellsOf 3) [v5, v6]) = some y5 := hff 5 _ rfl
      rw [cells3] at f5
      have f6 : DataW.trod enc Try.prog W 0 (fun _ => true) true n' 3 (List.take (Try.prog.cellsOf 3) [v6]) = some y6 := hff 6 _ rfl
      rw [cells3] at f6
      obtain ⟨z0, e0, _, r0⟩ := DataW.trod_int Try.underlying3 f0
      obtain ⟨z1, e1, _, r1⟩ := DataW.trod_int Try.underlying3 f1
      obtain ⟨z2, e2, _, r2⟩ := DataW.trod_int Try.underlying3 f2
      obtain ⟨z3, e3, _, r3⟩ := DataW.trod_int Try.underlying3 f3
      obtain ⟨z4, e4, _, r4⟩ := DataW.trod_int Try.underlying3 f4
      obtain ⟨z5, e5, _, r5⟩ := DataW.trod_int Try.underlying3 f5
      obtain ⟨z6, e6, _, r6⟩ := DataW.trod_int Try.underlying3 f6
      obtain rfl : v0 = _ := (List.cons.inj (show [v0] = [_] from e0)).1
      obtain rfl : v1 = _ := (List.cons.inj (show [v1] = [_] from e1)).1
      obtain rfl : v2 = _ := (List.cons.inj (show [v2] = [_] from e2)).1
      obtain rfl : v3 = _ := (List.cons.inj (show [v3] = [_] from e3)).1
      obtain rfl : v4 = _ := (List.cons.inj (show [v4] = [_] from e4)).1
      obtain rfl : v5 = _ := (List.cons.inj (show [v5] = [_] from e5)).1
      obtain rfl : v6 = _ := (List.cons.inj (show [v6] = [_] from e6)).1
      exact ⟨z0, z1, z2, z3, z4, z5, z6, rfl, bounds_i64 r2, bounds_i64 r3, bounds_i64 r4, bounds_i64 r5⟩
end Go.Proofs.Ytgonpaofickffaa
