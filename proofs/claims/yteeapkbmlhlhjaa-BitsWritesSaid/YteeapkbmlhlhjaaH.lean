/- The document's example. -/
import Derived.Test.YteeapkbmlhlhjaaG
namespace Go.Proofs.Yteeapkbmlhlhjaa
open Go.RowKit

theorem ex1 (high : Bool) : put high [] 1 1 = [true] := by cases high <;> decide
theorem ex2 (high : Bool) : put high [true] 2 2 = true :: row high 2 2 := by cases high <;> decide
theorem ex3 (high : Bool) : put high (true :: row high 2 2) 5 3 = true :: row high 2 2 ++ row high 5 3 := by cases high <;> decide
theorem ex4 (high : Bool) (L : List Bool) : put high L 8 3 = L := by
  have e : fits 8 3 = false := by decide
  simp [put, e]
theorem ex5 (high : Bool) : packed high (true :: row high 2 2 ++ row high 5 3) = [if high then 212 else 45] := by cases high <;> decide

/-- One of the law's two rounds: the writer, and what it tells. -/
theorem told_cell {w w' : World} {b : Int} {aa : Option Addr} {c : Nat} (h : w'.ownsRow w.heap.size 5 1 (.slice aa 1 c) 1 ([b].map (Value.int .u8))) : ∃ g, aa = some ⟨g, 0, none⟩ ∧ 1 ≤ c ∧ w'.cell? ⟨g, 0, none⟩ = some (.int .u8 b) := by
  rcases h.2 with ⟨e, e2⟩ | ⟨g, cap, cur, e, _, hh, hc, _⟩
  · cases e2
  · cases e
    refine ⟨g, rfl, hc, ?_⟩
    have k := h.cells (g := g) rfl 0 (.int .u8 b) rfl
    simpa [Addr.add] using k

set_option maxRecDepth 100000 in
set_option maxHeartbeats 1600000 in
theorem anchor_any (w : World) : Calls Try.prog 8 #[] w (Yes w) := by
  go_enter Try.func8, Try.ntmps8
  go_wp2
  go_loopw [2, 3, 4, 7] (fun _ _ _ cnt wr => ∃ i : Nat, i ≤ 2 ∧ cnt = .int .i64 i ∧ Keeps (fun _ => False) w wr ∧ wr.cell? ⟨w.heap.size, 0, none⟩ = some (.bool false) ∧ wr.cell? ⟨w.heap.size, 1, none⟩ = some (.bool true)) (fun _ _ _ cnt _ => 2 - (intOf cnt).toNat)
  case atStart =>
    refine ⟨0, by omega, rfl, (Keeps.refl _ _).alloc _, ?_, ?_⟩
    · simp
    · simp
  case round =>
    obtain ⟨i, hi, rfl, hk, b0, b1⟩ := hrel
    by_cases hlt : i < 2
    · obtain ⟨high, hb⟩ : ∃ high : Bool, wr.cell? ⟨w.heap.size, i, none⟩ = some (.bool high) := by
        rcases (show i = 0 ∨ i = 1 by omega) with rfl | rfl
        · exact ⟨_, b0⟩
        · exact ⟨_, b1⟩
      have N := Lib.hid (new_st (Keeps.refl _ wr) high)
      have HK := Lib.hid hk
      have hlt0 : w.heap.size < wr.heap.size := World.block_lt_of_cell? wr _ b0
      have B0 := Lib.hid (And.intro b0 b1)
      clear hk b0 b1
      go_wp2_with fail
      refine N.out.mono ?_
      rintro e w1 ⟨rfl, h1⟩
      have C1 := put_st h1 (by simp) 1 1
      rw [ex1, show fits 1 1 = true by decide] at C1
      have C1 := Lib.hid C1
      clear h1
      go_wp2_with fail
      refine C1.out.mono ?_
      rintro e w2 ⟨rfl, h2⟩
      have C2 := put_st h2 (by simp) 2 2
      rw [ex2, show fits 2 2 = true by decide] at C2
      have C2 := Lib.hid C2
      clear h2
      go_wp2_with fail
      refine C2.out.mono ?_
      rintro e w3 ⟨rfl, h3⟩
      have C3 := put_st h3 (by simp [row_length]) 5 3
      rw [ex3, show fits 5 3 = true by decide] at C3
      have C3 := Lib.hid C3
      clear h3
      go_wp2_with fail
      refine C3.out.mono ?_
      rintro e w4 ⟨rfl, h4⟩
      have C4 := put_st h4 (by simp [row_length]) 8 3
      rw [ex4, show fits 8 3 = false by decide] at C4
      have C4 := Lib.hid C4
      clear h4
      go_wp2_with fail
      refine C4.out.mono ?_
      rintro e w5 ⟨rfl, h5⟩
      have C5 := bytes_st h5 (by simp [row_length])
      rw [ex5] at C5
      have C5 := Lib.hid C5
      have H5 := Lib.hid h5
      clear h5
      go_wp2_with fail
      refine C5.out.mono ?_
      rintro e w6 ⟨aa, c, rfl, hown, hbel⟩
      obtain ⟨g, rfl, hc, hcell⟩ := told_cell hown
      have k1 := (H5.out.below hbel).keeps
      have k := HK.out.trans k1 (fun _ _ h => h)
      have k0 : w6.cell? ⟨w.heap.size, 0, none⟩ = some (.bool false) ∧ w6.cell? ⟨w.heap.size, 1, none⟩ = some (.bool true) :=
        ⟨(World.cell?_of_block (w := wr) (k1.block _ hlt0 (fun h => h))).trans B0.out.1, (World.cell?_of_block (w := wr) (k1.block _ hlt0 (fun h => h))).trans B0.out.2⟩
      clear k1
      have X := Lib.hid (And.intro k k0)
      clear hown hbel k k0
      cases high
      · simp only [Bool.false_eq_true, if_false] at hcell
        go_wp2_with fail
        go_roundw
        case rel => exact ⟨i + 1, by omega, by go_num, X.out.1, X.out.2.1, X.out.2.2⟩
        case measure => simp [intOf]; omega
      · simp only [if_true] at hcell
        go_wp2_with fail
        go_roundw
        case rel => exact ⟨i + 1, by omega, by go_num, X.out.1, X.out.2.1, X.out.2.2⟩
        case measure => simp [intOf]; omega
    · obtain rfl : i = 2 := by omega
      go_wp2
      go_ret
      exact ⟨rfl, hk⟩
end Go.Proofs.Yteeapkbmlhlhjaa
