/- A play that came in, read cell by cell. -/
import Derived.Test.YtccfjpjhkaicgaaX
import Derived.Deep.Slices
import Derived.OpenShut
import Derived.ChangeOld
import Derived.ProofKit
namespace Go.Proofs.Ytccfjpjhkaicgaa
open Go.ChangeShapes Go.WideShapes Go.ChangeAt Go.RowKit

theorem cells3 : Try.prog.cellsOf 3 = 1 := by kernel_rfl
theorem cells27 : Try.prog.cellsOf 27 = 1 := by kernel_rfl
theorem cells31 : Try.prog.cellsOf 31 = 4 := by kernel_rfl

theorem add_none (b off i j : Nat) : ((⟨b, off, none⟩ : Addr).add i).add j = ⟨b, off + i + j, none⟩ := by
  unfold Addr.add
  split <;> rename_i h1 <;> split <;> rename_i h2 <;> simp_all

theorem bytes_in {H : Type} {enc : TypeId × Value → H} {w : World} {n : Nat} {v : Value} {y : DataW H × List MemPlace} (h : DataW.trod enc Try.prog w 0 (fun _ => true) true n 27 [v] = some y) :
    ∃ da dn dc ys, v = .slice da dn dc ∧ Src w da dn ys ∧ Fits da dn dc := by
  rcases open_ints Try.underlying27 Try.underlying5 (by kernel_rfl) h with ⟨hcs, _⟩ | ⟨x, l, c, zs, hcs, _, hl, hm, hz, _, hcell, hwz⟩
  · simp only [List.cons.injEq, and_true] at hcs
    exact ⟨none, 0, 0, [], hcs, src_zero _ _, ⟨Nat.le_refl _, Nat.zero_le _, fun _ => rfl⟩⟩
  · simp only [List.cons.injEq, and_true] at hcs
    obtain ⟨h1, h2⟩ := src_of_row (w := w) (a := some x) (len := l) (cap := c) (zs := zs) (Or.inr ⟨x, rfl, hl, hm, by simpa using hz, hcell, hwz⟩)
    exact ⟨_, _, _, _, hcs, h1, h2⟩

theorem play_of_trod {H : Type} {enc : TypeId × Value → H} {w : World} {fuel : Nat} {a : Option Addr} {len cp : Nat} {x : DataW H × List MemPlace}
    (h : DataW.trod enc Try.prog w 0 (fun _ => true) true fuel 22 [.slice a len cp] = some x) : Play w a len cp := by
  rcases Deep.open_slice Try.underlying22 h with ⟨hcs, _⟩ | ⟨ad, l, c, m, n, D, Pl, hcs, _, hl, hm, hmm, _, hi⟩
  · simp only [List.cons.injEq, and_true, Value.slice.injEq] at hcs
    obtain ⟨rfl, rfl, rfl⟩ := hcs
    exact ⟨Nat.le_refl _, Nat.zero_le _, fun i hi => by omega⟩
  · simp only [List.cons.injEq, and_true, Value.slice.injEq] at hcs
    obtain ⟨rfl, rfl, rfl⟩ := hcs
    refine ⟨hl, hm, fun i hlt => ?_⟩
    obtain ⟨b, off, spot⟩ := ad
    have hsp : spot = none := by
      obtain ⟨cs, hc, _⟩ := hi 0 (by rw [hmm, if_pos rfl]; omega)
      rw [cells31, Nat.zero_mul] at hc
      obtain ⟨_, hcl, hat⟩ := World.cells?_some hc
      have h1 := World.cell?_spot ((hat 0 (by omega)).trans (List.getElem?_eq_getElem (by omega)))
      simpa [Addr.add] using h1
    subst hsp
    obtain ⟨cs, hc, ht⟩ := hi i (by rw [hmm, if_pos rfl]; omega)
    rw [cells31] at hc
    obtain ⟨ys, n', _, _, _, hyl, hf⟩ := DataW.trod_struct Try.underlying31 ht
    obtain ⟨_, hcl, hat⟩ := World.cells?_some hc
    match cs, hcl with
    | [v0, v1, v2, v3], _ =>
      match ys, hyl with
      | [y0, y1, y2, y3], _ =>
        have f0 : DataW.trod enc Try.prog w 0 (fun _ => true) true n' 3 (List.take (Try.prog.cellsOf 3) [v0, v1, v2, v3]) = some y0 := hf 0 _ rfl
        rw [cells3] at f0
        have f1 : DataW.trod enc Try.prog w 0 (fun _ => true) true n' 3 (List.take (Try.prog.cellsOf 3) [v1, v2, v3]) = some y1 := hf 1 _ rfl
        rw [cells3] at f1
        have f2 : DataW.trod enc Try.prog w 0 (fun _ => true) true n' 3 (List.take (Try.prog.cellsOf 3) [v2, v3]) = some y2 := hf 2 _ rfl
        rw [cells3] at f2
        have f3 : DataW.trod enc Try.prog w 0 (fun _ => true) true n' 27 (List.take (Try.prog.cellsOf 27) [v3]) = some y3 := hf 3 _ rfl
        rw [cells27] at f3
        obtain ⟨kind, e0, _, _⟩ := DataW.trod_int Try.underlying3 f0
        obtain ⟨N, e1, _, hN⟩ := DataW.trod_int Try.underlying3 f1
        obtain ⟨L, e2, _, _⟩ := DataW.trod_int Try.underlying3 f2
        obtain ⟨da, dn, dc, zs, rfl, hs, hft⟩ := bytes_in f3
        obtain rfl : v0 = _ := (List.cons.inj (show [v0] = [_] from e0)).1
        obtain rfl : v1 = _ := (List.cons.inj (show [v1] = [_] from e1)).1
        obtain rfl : v2 = _ := (List.cons.inj (show [v2] = [_] from e2)).1
        simp only [add_none] at hat
        exact ⟨b, off, rfl, kind, N, L, da, dn, dc, zs, hat 0 (by omega), hat 1 (by omega), hat 2 (by omega), hat 3 (by omega), bounds_i64 hN, hs, hft⟩
end Go.Proofs.Ytccfjpjhkaicgaa
