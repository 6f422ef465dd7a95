/- What came in, opened: pictures, with the room of an absent row of pixels. -/
import Derived.Test.YtfcndldobjpbnaaTA
namespace Go.Proofs.Ytfcndldobjpbnaa
open Go.ChangeShapes Go.WideShapes Go.ChangeAt Go.RowKit
set_option linter.unusedVariables false

theorem ints_of_trod2 {H : Type} {enc : TypeId × Value → H} {w : World} {a : Option Addr} {len cp : Nat} {d : DataW H} {p : List MemPlace}
    (h : DataW.Trod enc Try.prog w 0 (fun _ => true) true 42 (.slice a len cp) d p) : ∃ zs, len ≤ cp ∧ Ints w a len zs ∧ (a = none → len = 0 ∧ cp = 0) := by
  obtain ⟨fuel, hf⟩ := h
  rcases open_ints Try.underlying42 Try.underlying3 (by kernel_rfl) hf with ⟨hcs, _⟩ | ⟨x, l, c, zs, hcs, _, hl, hm, hz, _, hcell, hwz⟩
  · simp [Value.cells] at hcs
    obtain ⟨rfl, rfl, rfl⟩ := hcs
    exact ⟨[], Nat.le_refl _, ⟨rfl, fun z hz => by simp at hz, fun hp => absurd hp (by omega)⟩, fun _ => ⟨rfl, rfl⟩⟩
  · simp [Value.cells] at hcs
    obtain ⟨rfl, rfl, rfl⟩ := hcs
    have hz2 : zs.length = cp := by simpa using hz
    refine ⟨zs.take len, hl, ⟨by rw [List.length_take]; omega, fun z hz3 => bounds_i64 (hwz z (List.mem_of_mem_take hz3)), fun hp => ?_⟩, fun e => by cases e⟩
    obtain ⟨b, off, rfl⟩ := head_spot (hcell 0 (by omega))
    refine ⟨b, off, rfl, fun j y hj => ?_⟩
    rw [List.getElem?_take] at hj
    split at hj
    · have hj2 : j < zs.length := by omega
      have hc := hcell j hj2
      rw [add_spot, List.getD_eq_getElem?_getD, hj] at hc
      exact hc
    · cases hj
theorem open_pic2 {H : Type} {enc : TypeId × Value → H} {W : World} {base : Nat} {v : Value} {d : DataW H} {p : List MemPlace} (hv : Value.okWide Try.prog W .any base 44 v)
    (h : DataW.Trod enc Try.prog W 0 (fun _ => true) true 44 v d p) : ∃ (x y : Int) (a : Option Addr) (n c : Nat) (zs : List Int), v = .agg #[.int .i64 x, .int .i64 y, .slice a n c] ∧
      (-9223372036854775808 ≤ x ∧ x ≤ 9223372036854775807) ∧ (-9223372036854775808 ≤ y ∧ y ≤ 9223372036854775807) ∧ n ≤ c ∧ Ints W a n zs ∧ (a = none → n = 0 ∧ c = 0) := by
  obtain ⟨cs, rfl, hsz, hrow⟩ : ∃ cs, v = .agg cs ∧ cs.size = Try.prog.cellsOf 44 ∧ Row.okWide Try.prog W .any base 44 cs := by
    simpa [Value.okWide, Try.underlying44] using hv
  rw [show Try.prog.cellsOf 44 = 3 by kernel_rfl] at hsz
  obtain ⟨l⟩ := cs
  obtain ⟨c0, c1, c2, rfl⟩ := list3 l hsz
  obtain ⟨fuel, hf⟩ := h
  obtain ⟨ys, n', _, _, _, hyl, hg⟩ := DataW.trod_struct Try.underlying44 hf
  match ys, hyl with
  | [y0, y1, y2], _ =>
    have f0 : DataW.trod enc Try.prog W 0 (fun _ => true) true n' 3 (List.take (Try.prog.cellsOf 3) [c0, c1, c2]) = some y0 := hg 0 _ rfl
    rw [show Try.prog.cellsOf 3 = 1 by kernel_rfl] at f0
    have f1 : DataW.trod enc Try.prog W 0 (fun _ => true) true n' 3 (List.take (Try.prog.cellsOf 3) [c1, c2]) = some y1 := hg 1 _ rfl
    rw [show Try.prog.cellsOf 3 = 1 by kernel_rfl] at f1
    have f2 : DataW.trod enc Try.prog W 0 (fun _ => true) true n' 42 (List.take (Try.prog.cellsOf 42) [c2]) = some y2 := hg 2 _ rfl
    rw [show Try.prog.cellsOf 42 = 1 by kernel_rfl] at f2
    obtain ⟨V, e0, _, hV⟩ := DataW.trod_int Try.underlying3 f0
    obtain ⟨N, e1, _, hN⟩ := DataW.trod_int Try.underlying3 f1
    obtain rfl : c0 = _ := (List.cons.inj (show [c0] = [_] from e0)).1
    obtain rfl : c1 = _ := (List.cons.inj (show [c1] = [_] from e1)).1
    have hsl : ∃ a n c, c2 = .slice a n c := by
      rcases open_ints Try.underlying42 Try.underlying3 (by kernel_rfl) f2 with ⟨hcs, _⟩ | ⟨x, l, c, zs, hcs, _⟩
      · exact ⟨none, 0, 0, (List.cons.inj (show [c2] = [_] from hcs)).1⟩
      · exact ⟨_, _, _, (List.cons.inj (show [c2] = [_] from hcs)).1⟩
    obtain ⟨a, n, c, rfl⟩ := hsl
    obtain ⟨zs, hn, hz, hcap⟩ := ints_of_trod2 (d := y2.1) (p := y2.2) ⟨n', f2⟩
    exact ⟨V, N, a, n, c, zs, rfl, bounds_i64 hV, bounds_i64 hN, hn, hz, hcap⟩
end Go.Proofs.Ytfcndldobjpbnaa
