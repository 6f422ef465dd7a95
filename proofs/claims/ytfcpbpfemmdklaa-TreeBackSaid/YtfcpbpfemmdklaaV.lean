/- New (7), the map that does nothing (66), copies of documents (18), all deeds (17), Parent (11). -/
import Derived.Test.YtfcpbpfemmdklaaU
namespace Go.Proofs.Ytfcpbpfemmdklaa
open Go.RowKit Go.Lib
set_option linter.unusedSimpArgs false
set_option linter.unusedVariables false

theorem four_set {w : World} {R : Nat} {x y z v : Value} {t : TypeId} (h : w.heap[R]? = some (.cells #[x, y, z, v] t (0, 0))) (x' y' z' v' : Value) :
    ((((w.setCell ⟨R, 0, none⟩ x').setCell ⟨R, 1, none⟩ y').setCell ⟨R, 2, none⟩ z').setCell ⟨R, 3, none⟩ v').heap[R]? = some (.cells #[x', y', z', v'] t (0, 0)) := by
  have h0 := block_set (i := 0) h x'
  have h1 := block_set (i := 1) h0 y'
  have h2 := block_set (i := 2) h1 z'
  have h3 := block_set (i := 3) h2 v'
  exact h3
theorem keeps_set4 {w w' : World} (k : Keeps none' w w') {Z : Nat} (hZ : w.heap.size ≤ Z) (x y z v : Value) : Keeps none' w ((((w'.setCell ⟨Z, 0, none⟩ x).setCell ⟨Z, 1, none⟩ y).setCell ⟨Z, 2, none⟩ z).setCell ⟨Z, 3, none⟩ v) :=
  (keeps_set3 k hZ x y z).setCell (fun e => by have e' : Z < w.heap.size := e; omega) _
def docV (x y z : Int) (h : Hd) : Value := .agg #[.int .i64 x, .int .i64 y, .int .i64 z, .slice h.a h.n h.c]
set_option maxRecDepth 100000 in
set_option maxHeartbeats 800000 in
theorem new7 (x y : Int) (w : World) : Calls Try.prog 7 #[.int .i64 x, .int .i64 y] w fun e w' => e = .returned (.tuple (if areaP x y = true then #[docV x y 1 Hd.nil, .int .i64 0] else #[docV 0 0 0 Hd.nil, .int .i64 31])) ∧ Keeps none' w w' := by
  have R0 := Lib.hid (heap_alloc_new w (.cells #[.int .i64 0, .int .i64 0, .int .i64 0, .slice none 0 0] 25))
  have K0 := Lib.hid ((Keeps.refl none' w).alloc (.cells #[.int .i64 0, .int .i64 0, .int .i64 0, .slice none 0 0] 25))
  obtain ⟨Z, hZ⟩ : ∃ Z, Z = w.heap.size := ⟨_, rfl⟩
  have ZS := Lib.hid hZ
  rw [← hZ] at R0
  obtain ⟨⟨r0, r1, r2, r3⟩, rf⟩ := four_cells R0.out
  have f0 := rf 0
  have f1 := rf 1
  have f2 := rf 2
  have f3 := rf 3
  clear rf
  cases h1 : areaP x y with
  | true =>
    go_enter Try.func7, Try.ntmps7
    go_upto_region 1 with (fail)
    rw [← hZ]
    clear hZ
    generalize w.alloc (.cells #[.int .i64 0, .int .i64 0, .int .i64 0, .slice none 0 0] 25) = w1 at *
    go_wp2_with (refine (area16 x y w1).mono ?_; rw [h1]; rintro e w2 ⟨rfl, hw⟩; subst hw)
    refine bodyPost_ret (results_cell_row2 rfl _ _ Z 25 _ (0, 0) _ rfl (four_set R0.out _ _ _ _) Try.underlying25 rfl (by kernel_rfl)) rfl ?_
    exact ⟨rfl, keeps_set4 K0.out (by rw [ZS.out]; exact Nat.le_refl _) _ _ _ _⟩
  | false =>
    go_enter Try.func7, Try.ntmps7
    go_upto_region 1 with (fail)
    rw [← hZ]
    clear hZ
    generalize w.alloc (.cells #[.int .i64 0, .int .i64 0, .int .i64 0, .slice none 0 0] 25) = w1 at *
    go_wp2_with (refine (area16 x y w1).mono ?_; rw [h1]; rintro e w2 ⟨rfl, hw⟩; subst hw)
    refine bodyPost_ret (results_cell_row2 rfl _ _ Z 25 _ (0, 0) _ rfl (four_set R0.out _ _ _ _) Try.underlying25 rfl (by kernel_rfl)) rfl ?_
    exact ⟨rfl, keeps_set4 K0.out (by rw [ZS.out]; exact Nat.le_refl _) _ _ _ _⟩
set_option maxHeartbeats 800000 in
theorem one66 (w : World) : Calls Try.prog 66 #[] w fun e w' => e = .returned (.agg #[.int .i64 65536, .int .i64 0, .int .i64 0, .int .i64 65536, .int .i64 0, .int .i64 0]) ∧ Keeps none' w w' := by
  have K0 := Lib.hid ((Keeps.refl none' w).alloc (.cells #[.int .i64 65536, .int .i64 0, .int .i64 0, .int .i64 65536, .int .i64 0, .int .i64 0] 33))
  go_enter Try.func66, Try.ntmps66
  go_wp2
  exact bodyPost_ret (results_cell_row rfl _ _ w.heap.size 33 #[.int .i64 65536, .int .i64 0, .int .i64 0, .int .i64 65536, .int .i64 0, .int .i64 0] (0, 0) _ rfl (heap_alloc_new _ _) Try.underlying33 rfl (by kernel_rfl)) rfl ⟨rfl, K0.out⟩
set_option maxRecDepth 100000 in
set_option maxHeartbeats 800000 in
theorem deeds17 (w : World) : Calls Try.prog 17 #[] w fun e w' => e = .returned (.slice (some ⟨w.heap.size, 0, none⟩) 10 10) ∧ ∃ f0 : Value, w' = w.alloc (.cells #[f0, .func (.func 30) #[] #[], .func (.func 31) #[] #[], .func (.func 32) #[] #[], .func (.func 33) #[] #[], .func (.func 34) #[] #[], .func (.func 35) #[] #[], .func (.func 36) #[] #[], .func (.func 37) #[] #[], .func (.func 38) #[] #[]] 59) := by
  go_enter Try.func17, Try.ntmps17
  go_wp2
  go_ret
  exact ⟨rfl, _, rfl⟩
end Go.Proofs.Ytfcpbpfemmdklaa
