/- TileFills. -/
import Derived.Test.YtgonpaofickffaaUH
import Derived.BigQuiet
namespace Go.Proofs.Ytgonpaofickffaa
open Go.RowKit Go.Maps
set_option linter.unusedVariables false

/-- Two states share no block. -/
def Sep (S S' : St) : Prop := ∀ b, Foot S b → ¬ Foot S' b
theorem Sep.mod {w : World} {S S1 S2 : St} {k : Nat} {p p' : Pl} (h : Sep S S1) (hr : Rep w S) (hm : Mod w.heap.size S1 S2 k p p') : Sep S S2 := by
  intro b hb hb2
  rcases hm.foot b hb2 with h1 | h1
  · exact h b hb h1
  · have := hr.lt hb
    omega
theorem Sep.symm {S S' : St} (h : Sep S S') : Sep S' S := fun b hb hb2 => h b hb2 hb
theorem foot_more {S : St} {q : Pl} {b : Nat} (h : Foot (S.more q) b) : Foot S b ∨ b = q.pb ∨ b = q.mb := by
  rcases h with rfl | ⟨k, p, hp, hb⟩ | hb
  · exact .inl (.inl rfl)
  · simp only [St.more, List.getElem?_append] at hp
    split at hp
    · exact .inl (.inr (.inl ⟨k, p, hp, hb⟩))
    · rw [List.getElem?_singleton] at hp
      split at hp
      · cases hp
        exact .inr hb.symm
      · cases hp
  · exact .inl (.inr (.inr hb))
theorem Sep.more {w : World} {S S1 : St} {q : Pl} (h : Sep S S1) (hr : Rep w S) (h1 : w.heap.size ≤ q.pb) (h2 : w.heap.size ≤ q.mb) : Sep S (S1.more q) := by
  intro b hb hb2
  have := hr.lt hb
  rcases foot_more hb2 with h3 | h3 | h3
  · exact h b hb h3
  · omega
  · omega
theorem sep_new {w : World} {S : St} (hr : Rep w S) (cap : Nat) : Sep S (St.new w.heap.size cap) := by
  intro b hb hb2
  have := hr.lt hb
  rcases hb2 with rfl | ⟨k, p, hp, -⟩ | hb2
  · exact absurd this (Nat.lt_irrefl _)
  · simp [St.new] at hp
  · simp [St.new] at hb2
theorem Sep.keep {w w' : World} {S S' : St} (h : Sep S S') (hr : Rep w S) (hk : Keeps (Foot S') w w') : Rep w' S := hr.kept hk (fun b hb => h b hb)

set_option maxRecDepth 100000 in
theorem fills_bad (Kd Nn X Y OW OH V W H : Int) (w : World) (h : ¬ (1 ≤ W ∧ 1 ≤ H ∧ W ≤ 40 ∧ H ≤ 40 ∧ 0 ≤ V ∧ V < 4294967296)) : Calls Try.prog 6 #[.agg #[.int .i64 Kd, .int .i64 Nn, .int .i64 X, .int .i64 Y, .int .i64 OW, .int .i64 OH, .int .i64 V], .int .i64 W, .int .i64 H] w (Yes w) := by
  have A := Lib.hid anchor_any
  by_cases h0 : W < 1
  · have t0 : decide (W < 1) = true := decide_eq_true h0
    clear h h0
    go_enter Try.func6, Try.ntmps6
    go_wp2_with fail
    refine (A.out _).mono ?_
    rintro e w1 ⟨rfl, hk⟩
    obtain ⟨T, hT⟩ : ∃ T, T = w.heap.size := ⟨_, rfl⟩
    have hb : w1.heap[T]? = some (.cells #[.int .i64 Kd, .int .i64 Nn, .int .i64 X, .int .i64 Y, .int .i64 OW, .int .i64 OH, .int .i64 V] 39 (0, 0)) := by rw [hT]; exact (hk.later _ (by show _ < (Array.push _ _).size; simp)).trans (heap_alloc_new _ _)
    have b6 : w1.cell? ⟨T, 6, none⟩ = some (.int .i64 V) := by simp [World.cell?, hb]
    have HK := Lib.hid (((Keeps.refl none' w).alloc _).trans hk (fun _ _ h => h))
    rw [← hT]
    clear hk hb hT
    go_wp2_with fail
    go_ret
    exact ⟨rfl, HK.out⟩
  have t0 : decide (W < 1) = false := decide_eq_false h0
  by_cases h1 : H < 1
  · have t1 : decide (H < 1) = true := decide_eq_true h1
    clear h h0 h1
    go_enter Try.func6, Try.ntmps6
    go_wp2_with fail
    refine (A.out _).mono ?_
    rintro e w1 ⟨rfl, hk⟩
    obtain ⟨T, hT⟩ : ∃ T, T = w.heap.size := ⟨_, rfl⟩
    have hb : w1.heap[T]? = some (.cells #[.int .i64 Kd, .int .i64 Nn, .int .i64 X, .int .i64 Y, .int .i64 OW, .int .i64 OH, .int .i64 V] 39 (0, 0)) := by rw [hT]; exact (hk.later _ (by show _ < (Array.push _ _).size; simp)).trans (heap_alloc_new _ _)
    have b6 : w1.cell? ⟨T, 6, none⟩ = some (.int .i64 V) := by simp [World.cell?, hb]
    have HK := Lib.hid (((Keeps.refl none' w).alloc _).trans hk (fun _ _ h => h))
    rw [← hT]
    clear hk hb hT
    go_wp2_with fail
    go_ret
    exact ⟨rfl, HK.out⟩
  have t1 : decide (H < 1) = false := decide_eq_false h1
  by_cases h2 : 40 < W
  · have t2 : decide (40 < W) = true := decide_eq_true h2
    clear h h0 h1 h2
    go_enter Try.func6, Try.ntmps6
    go_wp2_with fail
    refine (A.out _).mono ?_
    rintro e w1 ⟨rfl, hk⟩
    obtain ⟨T, hT⟩ : ∃ T, T = w.heap.size := ⟨_, rfl⟩
    have hb : w1.heap[T]? = some (.cells #[.int .i64 Kd, .int .i64 Nn, .int .i64 X, .int .i64 Y, .int .i64 OW, .int .i64 OH, .int .i64 V] 39 (0, 0)) := by rw [hT]; exact (hk.later _ (by show _ < (Array.push _ _).size; simp)).trans (heap_alloc_new _ _)
    have b6 : w1.cell? ⟨T, 6, none⟩ = some (.int .i64 V) := by simp [World.cell?, hb]
    have HK := Lib.hid (((Keeps.refl none' w).alloc _).trans hk (fun _ _ h => h))
    rw [← hT]
    clear hk hb hT
    go_wp2_with fail
    go_ret
    exact ⟨rfl, HK.out⟩
  have t2 : decide (40 < W) = false := decide_eq_false h2
  by_cases h3 : 40 < H
  · have t3 : decide (40 < H) = true := decide_eq_true h3
    clear h h0 h1 h2 h3
    go_enter Try.func6, Try.ntmps6
    go_wp2_with fail
    refine (A.out _).mono ?_
    rintro e w1 ⟨rfl, hk⟩
    obtain ⟨T, hT⟩ : ∃ T, T = w.heap.size := ⟨_, rfl⟩
    have hb : w1.heap[T]? = some (.cells #[.int .i64 Kd, .int .i64 Nn, .int .i64 X, .int .i64 Y, .int .i64 OW, .int .i64 OH, .int .i64 V] 39 (0, 0)) := by rw [hT]; exact (hk.later _ (by show _ < (Array.push _ _).size; simp)).trans (heap_alloc_new _ _)
    have b6 : w1.cell? ⟨T, 6, none⟩ = some (.int .i64 V) := by simp [World.cell?, hb]
    have HK := Lib.hid (((Keeps.refl none' w).alloc _).trans hk (fun _ _ h => h))
    rw [← hT]
    clear hk hb hT
    go_wp2_with fail
    go_ret
    exact ⟨rfl, HK.out⟩
  have t3 : decide (40 < H) = false := decide_eq_false h3
  by_cases h4 : V < 0
  · have t4 : decide (V < 0) = true := decide_eq_true h4
    clear h h0 h1 h2 h3 h4
    go_enter Try.func6, Try.ntmps6
    go_wp2_with fail
    refine (A.out _).mono ?_
    rintro e w1 ⟨rfl, hk⟩
    obtain ⟨T, hT⟩ : ∃ T, T = w.heap.size := ⟨_, rfl⟩
    have hb : w1.heap[T]? = some (.cells #[.int .i64 Kd, .int .i64 Nn, .int .i64 X, .int .i64 Y, .int .i64 OW, .int .i64 OH, .int .i64 V] 39 (0, 0)) := by rw [hT]; exact (hk.later _ (by show _ < (Array.push _ _).size; simp)).trans (heap_alloc_new _ _)
    have b6 : w1.cell? ⟨T, 6, none⟩ = some (.int .i64 V) := by simp [World.cell?, hb]
    have HK := Lib.hid (((Keeps.refl none' w).alloc _).trans hk (fun _ _ h => h))
    rw [← hT]
    clear hk hb hT
    go_wp2_with fail
    go_ret
    exact ⟨rfl, HK.out⟩
  have t4 : decide (V < 0) = false := decide_eq_false h4
  by_cases h5 : 4294967296 ≤ V
  · have t5 : decide (4294967296 ≤ V) = true := decide_eq_true h5
    clear h h0 h1 h2 h3 h4 h5
    go_enter Try.func6, Try.ntmps6
    go_wp2_with fail
    refine (A.out _).mono ?_
    rintro e w1 ⟨rfl, hk⟩
    obtain ⟨T, hT⟩ : ∃ T, T = w.heap.size := ⟨_, rfl⟩
    have hb : w1.heap[T]? = some (.cells #[.int .i64 Kd, .int .i64 Nn, .int .i64 X, .int .i64 Y, .int .i64 OW, .int .i64 OH, .int .i64 V] 39 (0, 0)) := by rw [hT]; exact (hk.later _ (by show _ < (Array.push _ _).size; simp)).trans (heap_alloc_new _ _)
    have b6 : w1.cell? ⟨T, 6, none⟩ = some (.int .i64 V) := by simp [World.cell?, hb]
    have HK := Lib.hid (((Keeps.refl none' w).alloc _).trans hk (fun _ _ h => h))
    rw [← hT]
    clear hk hb hT
    go_wp2_with fail
    go_ret
    exact ⟨rfl, HK.out⟩
  have t5 : decide (4294967296 ≤ V) = false := decide_eq_false h5
  omega
end Go.Proofs.Ytgonpaofickffaa
