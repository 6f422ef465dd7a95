/- What came in, read cell by cell: bytes, tokens. -/
import Derived.Test.YtaandnikamnbbaaF
import Derived.Deep.Slices
import Derived.OpenShut
import Derived.ChangeOld
import Derived.ChangeSlices
import Derived.ProofKit
namespace Go.Proofs.Ytaandnikamnbbaa
open Go.ChangeShapes Go.WideShapes Go.ChangeAt Go.RowKit
set_option linter.unusedVariables false

theorem bounds_i64 {n : Int} (h : (Lit.int .i64 n).wf = true) : -9223372036854775808 ≤ n ∧ n ≤ 9223372036854775807 := by
  simp [Lit.wf, IntKind.min, IntKind.max, IntKind.signed, IntKind.bits] at h
  omega
theorem byte_bounds {n : Int} (h : (Lit.int .u8 n).wf = true) : 0 ≤ n ∧ n < 256 := by
  simp [Lit.wf, IntKind.min, IntKind.max, IntKind.signed, IntKind.bits] at h
  omega

/-- A slice of bytes that came in. -/
def IsRow (w : World) (a : Option Addr) (len cap : Nat) (zs : List Int) : Prop :=
  (a = none ∧ len = 0 ∧ cap = 0 ∧ zs = []) ∨
  ∃ x, a = some x ∧ len ≤ cap ∧ cap ≤ maxLen ∧ zs.length = cap ∧ (∀ i, i < zs.length → w.cell? (x.add i) = some (.int .u8 (zs.getD i 0))) ∧ ∀ n ∈ zs, (Lit.int .u8 n).wf = true
theorem head_spot {w : World} {x : Addr} {v : Value} (h : w.cell? (x.add 0) = some v) : ∃ b off, x = ⟨b, off, none⟩ := by
  obtain ⟨b, off, spot⟩ := x
  have h1 := World.cell?_spot (by simpa [Addr.add] using h)
  simp only at h1
  exact ⟨b, off, by rw [h1]⟩
theorem arg_of_row {w : World} {a : Option Addr} {len cap : Nat} {zs : List Int} (h : IsRow w a len cap zs) : ∃ ds, Arg w a len cap ds := by
  rcases h with ⟨rfl, rfl, rfl, _⟩ | ⟨x, rfl, hl, hm, hz, hcell, hwz⟩
  · exact ⟨[], nil_arg w⟩
  · refine ⟨(zs.take len).map Int.toNat, ⟨by simp; omega, ?_, fun hp => ?_⟩, hl, fun e => (by cases e)⟩
    · intro y hy
      simp only [List.mem_map] at hy
      obtain ⟨z, hz2, rfl⟩ := hy
      have := byte_bounds (hwz z (List.mem_of_mem_take hz2))
      omega
    · obtain ⟨b, off, rfl⟩ := head_spot (hcell 0 (by omega))
      refine ⟨b, off, rfl, fun j y hj => ?_⟩
      rw [List.getElem?_map, List.getElem?_take] at hj
      split at hj
      · rename_i hjl
        have hj2 : j < zs.length := by omega
        have hc := hcell j hj2
        rw [add_spot] at hc
        rw [List.getElem?_eq_getElem hj2] at hj
        simp only [Option.map_some, Option.some.injEq] at hj
        rw [hc, List.getD_eq_getElem?_getD, List.getElem?_eq_getElem hj2]
        have := byte_bounds (hwz _ (List.getElem_mem hj2))
        simp only [Option.getD_some]
        congr 2
        omega
      · cases hj
theorem arg_of_trod {H : Type} {enc : TypeId × Value → H} {w : World} {a : Option Addr} {len cp : Nat} {d : DataW H} {p : List MemPlace}
    (h : DataW.Trod enc Try.prog w 0 (fun _ => true) true 24 (.slice a len cp) d p) : ∃ ds, Arg w a len cp ds := by
  obtain ⟨fuel, hf⟩ := h
  have k : ∃ zs, IsRow w a len cp zs := by
    rcases open_ints Try.underlying24 Try.underlying5 (by kernel_rfl) hf with ⟨hcs, _⟩ | ⟨x, l, c, zs, hcs, _, hl, hm, hz, _, hcell, hwz⟩
    · simp [Value.cells] at hcs
      obtain ⟨rfl, rfl, rfl⟩ := hcs
      exact ⟨[], .inl ⟨rfl, rfl, rfl, rfl⟩⟩
    · simp [Value.cells] at hcs
      obtain ⟨rfl, rfl, rfl⟩ := hcs
      exact ⟨zs, .inr ⟨_, rfl, hl, hm, by simpa using hz, hcell, hwz⟩⟩
  obtain ⟨zs, hz⟩ := k
  exact arg_of_row hz

theorem cells3 : Try.prog.cellsOf 3 = 1 := by kernel_rfl
theorem cells5 : Try.prog.cellsOf 5 = 1 := by kernel_rfl
theorem cells27 : Try.prog.cellsOf 27 = 3 := by kernel_rfl
theorem add_none (b off i j : Nat) : ((⟨b, off, none⟩ : Addr).add i).add j = ⟨b, off + i + j, none⟩ := by
  unfold Addr.add
  split <;> rename_i h1 <;> split <;> rename_i h2 <;> simp_all

theorem toks_each {H : Type} {enc : TypeId × Value → H} {w : World} {fuel : Nat} {a : Option Addr} {len cp : Nat} {x : DataW H × List MemPlace}
    (h : DataW.trod enc Try.prog w 0 (fun _ => true) true fuel 22 [.slice a len cp] = some x) : len ≤ cp ∧ cp ≤ maxLen ∧ ∀ i, i < len → ∃ x b off, a = some ⟨b, off, none⟩ ∧ OneTok w b (off + i * 3) x ∧ Fits x := by
  rcases Deep.open_slice Try.underlying22 h with ⟨hcs, _⟩ | ⟨ad, l, c, m, n, D, Pl, hcs, _, hl, hm, hmm, _, hi⟩
  · simp only [List.cons.injEq, and_true, Value.slice.injEq] at hcs
    obtain ⟨rfl, rfl, rfl⟩ := hcs
    exact ⟨Nat.le_refl _, Nat.zero_le _, fun i hi => by omega⟩
  · simp only [List.cons.injEq, and_true, Value.slice.injEq] at hcs
    obtain ⟨rfl, rfl, rfl⟩ := hcs
    refine ⟨hl, hm, fun i hlt => ?_⟩
    obtain ⟨b, off, spot⟩ := ad
    have hsp : spot = none := by
      obtain ⟨cs, hc, _⟩ := hi 0 (by rw [hmm, if_pos rfl]; omega)
      rw [cells27, Nat.zero_mul] at hc
      obtain ⟨_, hcl, hat⟩ := World.cells?_some hc
      have h1 := World.cell?_spot ((hat 0 (by omega)).trans (List.getElem?_eq_getElem (by omega)))
      simpa [Addr.add] using h1
    subst hsp
    obtain ⟨cs, hc, ht⟩ := hi i (by rw [hmm, if_pos rfl]; omega)
    rw [cells27] at hc
    obtain ⟨ys, n', _, _, _, hyl, hf⟩ := DataW.trod_struct Try.underlying27 ht
    obtain ⟨_, hcl, hat⟩ := World.cells?_some hc
    match cs, hcl with
    | [v0, v1, v2], _ =>
      match ys, hyl with
      | [y0, y1, y2], _ =>
        have f0 : DataW.trod enc Try.prog w 0 (fun _ => true) true n' 3 (List.take (Try.prog.cellsOf 3) [v0, v1, v2]) = some y0 := hf 0 _ rfl
        rw [cells3] at f0
        have f1 : DataW.trod enc Try.prog w 0 (fun _ => true) true n' 3 (List.take (Try.prog.cellsOf 3) [v1, v2]) = some y1 := hf 1 _ rfl
        rw [cells3] at f1
        have f2 : DataW.trod enc Try.prog w 0 (fun _ => true) true n' 5 (List.take (Try.prog.cellsOf 5) [v2]) = some y2 := hf 2 _ rfl
        rw [cells5] at f2
        obtain ⟨V, e0, _, hV⟩ := DataW.trod_int Try.underlying3 f0
        obtain ⟨N, e1, _, hN⟩ := DataW.trod_int Try.underlying3 f1
        obtain ⟨F, e2, _, hF⟩ := DataW.trod_int Try.underlying5 f2
        obtain rfl : v0 = _ := (List.cons.inj (show [v0] = [_] from e0)).1
        obtain rfl : v1 = _ := (List.cons.inj (show [v1] = [_] from e1)).1
        obtain rfl : v2 = _ := (List.cons.inj (show [v2] = [_] from e2)).1
        simp only [add_none] at hat
        have hb := byte_bounds hF
        obtain ⟨X, rfl⟩ := Int.eq_ofNat_of_zero_le hb.1
        exact ⟨⟨V, N, X⟩, b, off, rfl, ⟨hat 0 (by omega), hat 1 (by omega), hat 2 (by omega)⟩, bounds_i64 hV, bounds_i64 hN, by simp only; omega⟩

theorem toks_of_trod {H : Type} {enc : TypeId × Value → H} {w : World} {fuel : Nat} {a : Option Addr} {len cp : Nat} {x : DataW H × List MemPlace}
    (h : DataW.trod enc Try.prog w 0 (fun _ => true) true fuel 22 [.slice a len cp] = some x) : ∃ xs, Toks w a len xs := by
  obtain ⟨h1, h2, h3⟩ := toks_each h
  have h4 : ∀ i : Nat, ∃ x : Tok, i < len → ∃ b off, a = some ⟨b, off, none⟩ ∧ OneTok w b (off + i * 3) x ∧ Fits x := by
    intro i
    by_cases hi : i < len
    · obtain ⟨x, hx⟩ := h3 i hi
      exact ⟨x, fun _ => hx⟩
    · exact ⟨⟨0, 0, 0⟩, fun h => absurd h hi⟩
  obtain ⟨f, hf⟩ := Classical.axiomOfChoice h4
  have hget : ∀ (i : Nat) (x : Tok), ((List.range len).map f)[i]? = some x → i < len ∧ x = f i := by
    intro i x hx
    rw [List.getElem?_map] at hx
    by_cases hi : i < len
    · rw [List.getElem?_range hi] at hx
      simp only [Option.map_some, Option.some.injEq] at hx
      exact ⟨hi, hx.symm⟩
    · have : (List.range len)[i]? = none := by simp; omega
      rw [this] at hx
      cases hx
  refine ⟨(List.range len).map f, by simp, fun x hx => ?_, fun hp => ?_⟩
  · obtain ⟨i, hi⟩ := List.getElem?_of_mem hx
    obtain ⟨h5, rfl⟩ := hget i x hi
    obtain ⟨b, off, _, _, h6⟩ := hf i h5
    exact h6
  · obtain ⟨b, off, e, _, _⟩ := hf 0 hp
    refine ⟨b, off, e, fun i x hx => ?_⟩
    obtain ⟨h5, rfl⟩ := hget i x hx
    obtain ⟨b', off', e', h6, _⟩ := hf i h5
    rw [e] at e'
    cases e'
    exact h6
end Go.Proofs.Ytaandnikamnbbaa
