/- Texts of a layer, one behind the other. -/
import Derived.Test.YtfcpbpfemmdklaaGreatMAq
import Derived.Deep.Slices
import Derived.OpenShut
import Derived.ChangeOld
import Derived.ChangeSlices
import Derived.ProofKit
/- What came in, read cell by cell: points. -/
namespace Go.Proofs.YtfcpbpfemmdklaaGreat.La
open Go.ChangeShapes Go.WideShapes Go.ChangeAt Go.RowKit
set_option linter.unusedVariables false

theorem bounds_i64 {n : Int} (h : (Lit.int .i64 n).wf = true) : -9223372036854775808 ≤ n ∧ n ≤ 9223372036854775807 := by
  simp [Lit.wf, IntKind.min, IntKind.max, IntKind.signed, IntKind.bits] at h
  omega
theorem cells3 : Tryz.prog.cellsOf 3 = 1 := by kernel_rfl
set_option maxRecDepth 100000 in
theorem cells37 : Tryz.prog.cellsOf 80 = 2 := by kernel_rfl
theorem add_none (b off i j : Nat) : ((⟨b, off, none⟩ : Addr).add i).add j = ⟨b, off + i + j, none⟩ := by
  unfold Addr.add
  split <;> rename_i h1 <;> split <;> rename_i h2 <;> simp_all

set_option maxRecDepth 100000 in
theorem pts_each {H : Type} {enc : TypeId × Value → H} {w : World} {fuel : Nat} {a : Option Addr} {len cp : Nat} {x : DataW H × List MemPlace}
    (h : DataW.trod enc Tryz.prog w 0 (fun _ => true) true fuel 34 [.slice a len cp] = some x) : len ≤ cp ∧ cp ≤ maxLen ∧ ∀ i, i < len → ∃ x b off, a = some ⟨b, off, none⟩ ∧ OnePt w b (off + i * 2) x ∧ Fits x := by
  rcases Deep.open_slice Tryz.underlying34 h with ⟨hcs, _⟩ | ⟨ad, l, c, m, n, D, Pl, hcs, _, hl, hm, hmm, _, hi⟩
  · simp only [List.cons.injEq, and_true, Value.slice.injEq] at hcs
    obtain ⟨rfl, rfl, rfl⟩ := hcs
    exact ⟨Nat.le_refl _, Nat.zero_le _, fun i hi => by omega⟩
  · simp only [List.cons.injEq, and_true, Value.slice.injEq] at hcs
    obtain ⟨rfl, rfl, rfl⟩ := hcs
    refine ⟨hl, hm, fun i hlt => ?_⟩
    obtain ⟨b, off, spot⟩ := ad
    have hsp : spot = none := by
      obtain ⟨cs, hc, _⟩ := hi 0 (by rw [hmm, if_pos rfl]; omega)
      rw [cells37, Nat.zero_mul] at hc
      obtain ⟨_, hcl, hat⟩ := World.cells?_some hc
      have h1 := World.cell?_spot ((hat 0 (by omega)).trans (List.getElem?_eq_getElem (by omega)))
      simpa [Addr.add] using h1
    subst hsp
    obtain ⟨cs, hc, ht⟩ := hi i (by rw [hmm, if_pos rfl]; omega)
    rw [cells37] at hc
    obtain ⟨ys, n', _, _, _, hyl, hf⟩ := DataW.trod_struct Tryz.underlying80 ht
    obtain ⟨_, hcl, hat⟩ := World.cells?_some hc
    match cs, hcl with
    | [v0, v1], _ =>
      match ys, hyl with
      | [y0, y1], _ =>
        have f0 : DataW.trod enc Tryz.prog w 0 (fun _ => true) true n' 3 (List.take (Tryz.prog.cellsOf 3) [v0, v1]) = some y0 := hf 0 _ rfl
        rw [cells3] at f0
        have f1 : DataW.trod enc Tryz.prog w 0 (fun _ => true) true n' 3 (List.take (Tryz.prog.cellsOf 3) [v1]) = some y1 := hf 1 _ rfl
        rw [cells3] at f1
        obtain ⟨V, e0, _, hV⟩ := DataW.trod_int Tryz.underlying3 f0
        obtain ⟨N, e1, _, hN⟩ := DataW.trod_int Tryz.underlying3 f1
        obtain rfl : v0 = _ := (List.cons.inj (show [v0] = [_] from e0)).1
        obtain rfl : v1 = _ := (List.cons.inj (show [v1] = [_] from e1)).1
        simp only [add_none] at hat
        exact ⟨⟨V, N⟩, b, off, rfl, ⟨hat 0 (by omega), hat 1 (by omega)⟩, bounds_i64 hV, bounds_i64 hN⟩

theorem pts_of_trod {H : Type} {enc : TypeId × Value → H} {w : World} {fuel : Nat} {a : Option Addr} {len cp : Nat} {x : DataW H × List MemPlace}
    (h : DataW.trod enc Tryz.prog w 0 (fun _ => true) true fuel 34 [.slice a len cp] = some x) : ∃ xs, Pts w a len xs ∧ len ≤ cp := by
  obtain ⟨h1, h2, h3⟩ := pts_each h
  have h4 : ∀ i : Nat, ∃ x : Pt, i < len → ∃ b off, a = some ⟨b, off, none⟩ ∧ OnePt w b (off + i * 2) x ∧ Fits x := by
    intro i
    by_cases hi : i < len
    · obtain ⟨x, hx⟩ := h3 i hi
      exact ⟨x, fun _ => hx⟩
    · exact ⟨⟨0, 0⟩, fun h => absurd h hi⟩
  obtain ⟨f, hf⟩ := Classical.axiomOfChoice h4
  have hget : ∀ (i : Nat) (x : Pt), ((List.range len).map f)[i]? = some x → i < len ∧ x = f i := by
    intro i x hx
    rw [List.getElem?_map] at hx
    by_cases hi : i < len
    · rw [List.getElem?_range hi] at hx
      simp only [Option.map_some, Option.some.injEq] at hx
      exact ⟨hi, hx.symm⟩
    · have : (List.range len)[i]? = none := by simp; omega
      rw [this] at hx
      cases hx
  refine ⟨(List.range len).map f, ⟨by simp, fun x hx => ?_, fun hp => ?_⟩, h1⟩
  · obtain ⟨i, hi⟩ := List.getElem?_of_mem hx
    obtain ⟨h5, rfl⟩ := hget i x hi
    obtain ⟨b, off, _, _, h6⟩ := hf i h5
    exact h6
  · obtain ⟨b, off, e, _, _⟩ := hf 0 hp
    refine ⟨b, off, e, fun i x hx => ?_⟩
    obtain ⟨h5, rfl⟩ := hget i x hx
    obtain ⟨b', off', e', h6, _⟩ := hf i h5
    rw [e] at e'
    cases e'
    exact h6

set_option maxRecDepth 100000 in
/-- A point that came in. -/
theorem open_pt {H : Type} {enc : TypeId × Value → H} {W : World} {base : Nat} {v : Value} {d : DataW H} {p : List MemPlace} (hv : Value.okWide Tryz.prog W .any base 80 v)
    (h : DataW.Trod enc Tryz.prog W 0 (fun _ => true) true 80 v d p) : ∃ q : Pt, v = .agg #[.int .i64 q.X, .int .i64 q.Y] ∧ Fits q := by
  obtain ⟨cs, rfl, hsz, _⟩ : ∃ cs, v = .agg cs ∧ cs.size = Tryz.prog.cellsOf 80 ∧ Row.okWide Tryz.prog W .any base 80 cs := by
    simpa [Value.okWide, Tryz.underlying80] using hv
  rw [cells37] at hsz
  obtain ⟨l⟩ := cs
  match l, hsz with
  | [v0, v1], _ =>
    obtain ⟨fuel, hf⟩ := h
    have hf2 : DataW.trod enc Tryz.prog W 0 (fun _ => true) true fuel 80 [v0, v1] = some (d, p) := hf
    obtain ⟨ys, n', _, _, _, hyl, hff⟩ := DataW.trod_struct Tryz.underlying80 hf2
    match ys, hyl with
    | [y0, y1], _ =>
      have f0 : DataW.trod enc Tryz.prog W 0 (fun _ => true) true n' 3 (List.take (Tryz.prog.cellsOf 3) [v0, v1]) = some y0 := hff 0 _ rfl
      rw [cells3] at f0
      have f1 : DataW.trod enc Tryz.prog W 0 (fun _ => true) true n' 3 (List.take (Tryz.prog.cellsOf 3) [v1]) = some y1 := hff 1 _ rfl
      rw [cells3] at f1
      obtain ⟨V, e0, _, hV⟩ := DataW.trod_int Tryz.underlying3 f0
      obtain ⟨N, e1, _, hN⟩ := DataW.trod_int Tryz.underlying3 f1
      obtain rfl : v0 = _ := (List.cons.inj (show [v0] = [_] from e0)).1
      obtain rfl : v1 = _ := (List.cons.inj (show [v1] = [_] from e1)).1
      exact ⟨⟨V, N⟩, rfl, bounds_i64 hV, bounds_i64 hN⟩
end Go.Proofs.YtfcpbpfemmdklaaGreat.La
