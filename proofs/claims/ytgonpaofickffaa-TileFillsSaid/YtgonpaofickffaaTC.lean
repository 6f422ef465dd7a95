/- The part of an area that lies in a tile. -/
import Derived.Test.YtgonpaofickffaaTB
namespace Go.Proofs.Ytgonpaofickffaa
open Go.RowKit Go.Maps
set_option linter.unusedVariables false

theorem enter44 : ∀ (vs : Array Value) (w : World), (callFunc 44 vs).run Try.prog w = .ok (.enter 44 vs) w := enters_of Try.func44 (by kernel_rfl) rfl
set_option maxHeartbeats 1600000 in
theorem areaWithin_any (xf xt yf yt i j : Nat) (h1 : xf ≤ 32768) (h2 : xt ≤ 32768) (h3 : yf ≤ 32768) (h4 : yt ≤ 32768) (h5 : i ≤ 4096) (h6 : j ≤ 4096) (w : World) :
    Calls Try.prog 37 #[.agg #[.int .i64 (xf : Int), .int .i64 (xt : Int), .int .i64 (yf : Int), .int .i64 (yt : Int)], .agg #[.int .i64 (i : Int), .int .i64 (j : Int)]] w fun e w' =>
      e = .returned (.agg #[.int .i64 (inTile xf xt i).1, .int .i64 (inTile xf xt i).2, .int .i64 (inTile yf yt j).1, .int .i64 (inTile yf yt j).2]) ∧ Keeps none' w w' := by
  have C1 := Lib.hid (within_any xf xt i (by omega) (by omega) (by omega))
  have C2 := Lib.hid (within_any yf yt j (by omega) (by omega) (by omega))
  generalize inTile xf xt i = p at *
  generalize inTile yf yt j = q at *
  obtain ⟨p1, p2⟩ := p
  obtain ⟨q1, q2⟩ := q
  simp only at C1 C2 ⊢
  go_enter Try.func37, Try.ntmps37
  go_wp2_with fail
  obtain ⟨w1, hw1⟩ : ∃ w1, w1 = ((w.alloc (.cells #[.int .i64 (xf : Int), .int .i64 (xt : Int), .int .i64 (yf : Int), .int .i64 (yt : Int)] 82)).alloc (.cells #[.int .i64 (i : Int), .int .i64 (j : Int)] 70)).alloc (.cells #[.int .i64 0, .int .i64 0, .int .i64 0, .int .i64 0] 82) := ⟨_, rfl⟩
  rw [← hw1]
  have W0 := Lib.hid (show Keeps none' w w1 by rw [hw1]; exact (((Keeps.refl none' w).alloc _).alloc _).alloc _)
  have b0 : w1.heap[w.heap.size]? = some (.cells #[.int .i64 (xf : Int), .int .i64 (xt : Int), .int .i64 (yf : Int), .int .i64 (yt : Int)] 82 (0, 0)) := by
    rw [hw1, Below.heap_alloc _ _ _ (by simp; omega), Below.heap_alloc _ _ _ (by simp)]; exact heap_alloc_new _ _
  have b1 : w1.heap[w.heap.size + 1]? = some (.cells #[.int .i64 (i : Int), .int .i64 (j : Int)] 70 (0, 0)) := by
    rw [hw1]; exact heap_second _ _ _ _
  have b2 : w1.heap[w.heap.size + 2]? = some (.cells #[.int .i64 0, .int .i64 0, .int .i64 0, .int .i64 0] 82 (0, 0)) := by
    have := heap_alloc_new ((w.alloc (.cells #[.int .i64 (xf : Int), .int .i64 (xt : Int), .int .i64 (yf : Int), .int .i64 (yt : Int)] 82)).alloc (.cells #[.int .i64 (i : Int), .int .i64 (j : Int)] 70)) (.cells #[.int .i64 0, .int .i64 0, .int .i64 0, .int .i64 0] 82)
    rw [hw1]
    simpa using this
  have HB := Lib.hid (show w.heap.size + 2 < w1.heap.size by rw [hw1]; simp)
  clear hw1
  obtain ⟨B, hB⟩ : ∃ B, B = w.heap.size := ⟨_, rfl⟩
  rw [← hB] at b0 b1 b2 HB ⊢
  have HW := Lib.hid hB
  clear hB
  have SS : ∀ w', Keeps none' w1 w' → (w'.cell? ⟨B, 0, none⟩ = some (.int .i64 (xf : Int)) ∧ w'.cell? ⟨B, 1, none⟩ = some (.int .i64 (xt : Int)) ∧ w'.cell? ⟨B, 2, none⟩ = some (.int .i64 (yf : Int)) ∧ w'.cell? ⟨B, 3, none⟩ = some (.int .i64 (yt : Int)) ∧ w'.cell? ⟨B + 1, 0, none⟩ = some (.int .i64 (i : Int)) ∧ w'.cell? ⟨B + 1, 1, none⟩ = some (.int .i64 (j : Int)) ∧
      w'.cell? ⟨B + 1 + 1, 0, none⟩ = some (.int .i64 0) ∧ w'.cell? ⟨B + 1 + 1, 1, none⟩ = some (.int .i64 0) ∧ w'.cell? ⟨B + 1 + 1, 2, none⟩ = some (.int .i64 0) ∧ w'.cell? ⟨B + 1 + 1, 3, none⟩ = some (.int .i64 0)) ∧ w'.frozen? ⟨B + 1 + 1, 0, none⟩ = false ∧ w'.frozen? ⟨B + 1 + 1, 1, none⟩ = false ∧ w'.frozen? ⟨B + 1 + 1, 2, none⟩ = false ∧ w'.frozen? ⟨B + 1 + 1, 3, none⟩ = false ∧ w'.heap[B + 1 + 1]? = some (.cells #[.int .i64 0, .int .i64 0, .int .i64 0, .int .i64 0] 82 (0, 0)) := by
    intro w' hk
    have c0 := (hk.later B (by have := HB.out; omega)).trans b0
    have c1 := (hk.later (B + 1) (by have := HB.out; omega)).trans b1
    have c2 := (hk.later (B + 1 + 1) (by have := HB.out; omega)).trans b2
    refine ⟨⟨?_, ?_, ?_, ?_, ?_, ?_, ?_, ?_, ?_, ?_⟩, ?_, ?_, ?_, ?_, c2⟩ <;> simp [World.cell?, World.frozen?, c0, c1, c2]
  have SS := Lib.hid SS
  have FIN : ∀ w', Keeps none' w1 w' → ((((w'.setCell ⟨B + 1 + 1, 0, none⟩ (.int .i64 p1)).setCell ⟨B + 1 + 1, 1, none⟩ (.int .i64 p2)).setCell ⟨B + 1 + 1, 2, none⟩ (.int .i64 q1)).setCell ⟨B + 1 + 1, 3, none⟩ (.int .i64 q2)).heap[B + 1 + 1]? = some (.cells #[.int .i64 p1, .int .i64 p2, .int .i64 q1, .int .i64 q2] 82 (0, 0)) ∧
      Keeps none' w ((((w'.setCell ⟨B + 1 + 1, 0, none⟩ (.int .i64 p1)).setCell ⟨B + 1 + 1, 1, none⟩ (.int .i64 p2)).setCell ⟨B + 1 + 1, 2, none⟩ (.int .i64 q1)).setCell ⟨B + 1 + 1, 3, none⟩ (.int .i64 q2)) := by
    intro w' hk
    refine ⟨?_, ?_⟩
    · have := block_set (block_set (block_set (block_set (SS.out w' hk).2.2.2.2.2 (i := 0) (.int .i64 p1)) (i := 1) (.int .i64 p2)) (i := 2) (.int .i64 q1)) (i := 3) (.int .i64 q2)
      simpa using this
    · have hn : ∀ k : Nat, (⟨B + 1 + 1, k, none⟩ : Addr).block < w.heap.size → none' (⟨B + 1 + 1, k, none⟩ : Addr).block := fun k h => by have := HW.out; simp only at h; omega
      exact ((((W0.out.trans hk (fun _ _ h => h)).setCell (hn 0) _).setCell (hn 1) _).setCell (hn 2) _).setCell (hn 3) _
  have FIN := Lib.hid FIN
  obtain ⟨⟨x0, x1, x2, x3, x4, x5, x6, x7, x8, x9⟩, f0, f1, f2, f3, hb2⟩ := SS.out w1 (Keeps.refl _ _)
  have S1 := Lib.hid (Keeps.refl none' w1)
  have S2 := Lib.hid (Keeps.refl none' w1).drew
  have D1 := Lib.hid (later_call (w1 := w1) C1.out)
  have D2 := Lib.hid (later_call (w1 := w1) C2.out)
  clear C1 C2 b0 b1 b2 hb2
  go_region_law (first
    | (refine step_call (by rfl) 44 #[.tmp 6, .tmp 8] #[79, 3] (by rfl) enter44 #[.agg #[.int .i64 (xf : Int), .int .i64 (xt : Int)], .int .i64 (i : Int)] (by rfl) (.agg #[.int .i64 p1, .int .i64 p2]) _ (D1.out _ (by first | exact S2.out | exact S1.out | assumption)) ?_; intro w5 hx5; obtain ⟨⟨x0, x1, x2, x3, x4, x5, x6, x7, x8, x9⟩, f0, f1, f2, f3, hb2⟩ := SS.out w5 hx5)
    | (refine step_call (by rfl) 44 #[.tmp 11, .tmp 13] #[79, 3] (by rfl) enter44 #[.agg #[.int .i64 (yf : Int), .int .i64 (yt : Int)], .int .i64 (j : Int)] (by rfl) (.agg #[.int .i64 q1, .int .i64 q2]) _ (D2.out _ (by first | exact S2.out | exact S1.out | assumption)) ?_; intro w5 hx5; obtain ⟨⟨x0, x1, x2, x3, x4, x5, x6, x7, x8, x9⟩, f0, f1, f2, f3, hb2⟩ := SS.out w5 hx5))
  all_goals
    have hx := Lib.hid (FIN.out _ hx5)
    clear x0 x1 x2 x3 x4 x5 x6 x7 x8 x9 f0 f1 f2 f3 hb2 hx5 S1 S2 D1 D2 SS FIN
    go_wp2_with fail
    refine bodyPost_ret (results_cell_row rfl _ _ (B + 1 + 1) 82 #[.int .i64 p1, .int .i64 p2, .int .i64 q1, .int .i64 q2] (0, 0) _ rfl hx.out.1 Try.underlying82 rfl (by kernel_rfl)) rfl ?_
    exact ⟨rfl, hx.out.2⟩
end Go.Proofs.Ytgonpaofickffaa
