/- Curves: points that rise, lines between them. -/
import Derived.Test.YtfofghakjjblfaaDoorPT
namespace Go.Proofs.YtfofghakjjblfaaDoor
open Go.RowKit
set_option linter.unusedVariables false

def Rise (zs : List Int) (k : Nat) : Prop := ∀ m, 0 < m → m < k → Px.pt zs (2 * m - 2) < Px.pt zs (2 * m)
set_option maxHeartbeats 800000 in
theorem points_any (w : World) (a : Option Addr) (n c : Nat) (zs : List Int) (hn : n ≤ 16777216) (h : Ints w a n zs) (hnp : ¬ (n < 2 ∨ 32 < n ∨ n % 2 ≠ 0)) (b : Bool) (hb : b = true ↔ Px.Points zs) :
    Calls Tryd.prog 44 #[.slice a n c] w fun e w' => e = .returned (.bool b) ∧ ∃ q, w' = w.drewN q := by
  have H := Lib.hid h
  have HB := Lib.hid hb
  have HP := Lib.hid hnp
  have hn2 : ¬ n < 2 := fun e => hnp (.inl e)
  have hn32 : n ≤ 32 := by omega
  have t1 : decide ((n : Int) < 2) = false := by simp; omega
  have t2 : decide ((32 : Int) < n) = false := by simp; omega
  have t3 : (n : Int) % 2 = 0 := by omega
  clear h hb hnp hn2
  go_enter Tryd.func44, Tryd.ntmps44
  go_wp2_with fail
  clear t3
  go_loopw [3] (fun cnt wr => ∃ k : Nat, 0 < k ∧ 2 * k ≤ n ∧ cnt = .int .i64 ((2 * k : Nat) : Int) ∧ Rise zs k ∧ ∃ q, wr = w.drewN q) (fun cnt _ => n - (intOf cnt).toNat)
  case atStart => exact ⟨1, by omega, by have := HP.out; omega, rfl, fun m h1 h2 => by omega, 0, rfl⟩
  case round =>
    obtain ⟨k, k0, kn, rfl, hR, q, rfl⟩ := hrel
    have HR := Lib.hid hR
    clear hR
    by_cases hlt : 2 * k < n
    · obtain ⟨j, hj⟩ : ∃ j, 2 * k = j + 2 := ⟨2 * k - 2, by omega⟩
      obtain ⟨bb, off, rfl, hz, hc⟩ := H.out.at (i := j) (by omega)
      obtain ⟨bb', off', e', hz', hc'⟩ := H.out.at (i := j + 2) (by omega)
      cases e'
      have HJ := Lib.hid hj
      obtain ⟨i, hi⟩ : ∃ i, i = j + 2 := ⟨_, rfl⟩
      rw [hj] at hlt ⊢
      have hq : Rise zs (k + 1) ↔ Px.pt zs j < Px.pt zs (j + 2) := by
        constructor
        · intro h
          have := h k k0 (by omega)
          rwa [hj, show j + 2 - 2 = j by omega] at this
        · intro h m h1 h2
          by_cases e : m = k
          · subst e; rw [hj, show j + 2 - 2 = j by omega]; exact h
          · exact HR.out m h1 (by omega)
      have HQ := Lib.hid hq
      clear hq hj
      rw [← hi] at hc' hz' HQ HJ hlt ⊢
      have w0 : IntKind.i64.wrap ((i : Int) - 2) = (j : Int) := by rw [hi]; exact (wrap_i64 _ (by omega) (by omega)).trans (by omega)
      have HI := Lib.hid hi
      have hji : (j : Int) < n := by omega
      have hii : (i : Int) < n := by omega
      clear hi
      by_cases hlt2 : Px.pt zs j < Px.pt zs i
      · have t5 : decide (Px.pt zs i ≤ Px.pt zs j) = false := by simp; omega
        have R2 := Lib.hid (HQ.out.2 hlt2)
        clear hlt2
        generalize Px.pt zs i = zi at *
        generalize Px.pt zs j = zj at *
        go_wp2_with fail
        go_quiet (fail)
        go_wp2_with fail
        go_roundw
        case rel => exact ⟨k + 1, by omega, by have := HJ.out; have := HI.out; have := HP.out; omega, by have := HJ.out; have := HI.out; simp; omega, R2.out, q + nq, by simp⟩
        case measure => simp [intOf]; omega
      · have t5 : decide (Px.pt zs i ≤ Px.pt zs j) = true := by simp; omega
        have hbf : b = false := by
          cases hbb : b
          · rfl
          · exact absurd (HQ.out.1 (fun m h1 h2 => (HB.out.1 hbb).2.2.2 m h1 (by have := H.out.1; have := HJ.out; have := HI.out; omega))) hlt2
        subst hbf
        clear hlt2
        generalize Px.pt zs i = zi at *
        generalize Px.pt zs j = zj at *
        go_wp2_with fail
        go_quiet (fail)
        go_wp2_with fail
        go_ret
        exact ⟨rfl, q + nq, by simp⟩
    · have e : 2 * k = n := by omega
      have hbt : b = true := HB.out.2 ⟨by have := H.out.1; have := HP.out; omega, by have := H.out.1; omega, by have := H.out.1; have := HP.out; omega, fun m h1 h2 => HR.out m h1 (by have := H.out.1; omega)⟩
      subst hbt
      have t5 : decide (((2 * k : Nat) : Int) < (n : Int)) = false := by simp; omega
      go_wp2_with fail
      go_ret
      exact ⟨rfl, _, rfl⟩
theorem line_facts {x0 y0 x1 y1 v : Int} (hx0 : Px.Byte x0) (hy0 : Px.Byte y0) (hx1 : Px.Byte x1) (hy1 : Px.Byte y1) (hv : Px.Byte v) (h : x0 < x1) (h0 : x0 ≤ v) (h1 : v ≤ x1) :
    (-65025 ≤ (y1 - y0) * (v - x0) ∧ (y1 - y0) * (v - x0) ≤ 65025) ∧ (-255 ≤ ((y1 - y0) * (v - x0)).tdiv (x1 - x0) ∧ ((y1 - y0) * (v - x0)).tdiv (x1 - x0) ≤ 255) := by
  refine ⟨?_, ?_⟩
  · have k0 : 0 ≤ v - x0 := by omega
    have k1 : v - x0 ≤ 255 := by unfold Px.Byte at *; omega
    have a1 := Int.mul_le_mul_of_nonneg_right (show y1 - y0 ≤ 255 by unfold Px.Byte at *; omega) k0
    have a2 := Int.mul_le_mul_of_nonneg_right (show -255 ≤ y1 - y0 by unfold Px.Byte at *; omega) k0
    omega
  · have := Px.line_byte h h0 h1 hy0 hy1
    unfold Px.line at this
    unfold Px.Byte at *
    omega
set_option maxHeartbeats 800000 in
theorem line_any {x0 y0 x1 y1 v : Int} (hx0 : Px.Byte x0) (hy0 : Px.Byte y0) (hx1 : Px.Byte x1) (hy1 : Px.Byte y1) (hv : Px.Byte v) (h : x0 < x1) (h0 : x0 ≤ v) (h1 : v ≤ x1) (w : World) :
    Calls Tryd.prog 49 #[.agg #[.int .i64 x0, .int .i64 y0, .int .i64 x1, .int .i64 y1], .int .i64 v] w fun e w' => e = .returned (.int .i64 (Px.line x0 y0 x1 y1 v)) ∧ Keeps none' w w' := by
  obtain ⟨⟨p0, p1⟩, q0, q1⟩ := line_facts hx0 hy0 hx1 hy1 hv h h0 h1
  have HL := Lib.hid (show Px.line x0 y0 x1 y1 v = y0 + ((y1 - y0) * (v - x0)).tdiv (x1 - x0) from rfl)
  have F := Four.new w x0 y0 x1 y1
  have K := Lib.hid ((Keeps.refl none' w).alloc (.cells #[.int .i64 x0, .int .i64 y0, .int .i64 x1, .int .i64 y1] 26))
  have c0 := F.c0
  have c1 := F.c1
  have c2 := F.c2
  have c3 := F.c3
  obtain ⟨a0, a1⟩ := hx0
  obtain ⟨b0, b1⟩ := hy0
  obtain ⟨d0, d1⟩ := hx1
  obtain ⟨e0, e1⟩ := hy1
  obtain ⟨v0, v1⟩ := hv
  have hd : 0 < x1 - x0 := by omega
  generalize Px.line x0 y0 x1 y1 v = r at *
  have w1 : wrap64 ((y1 - y0) * (v - x0)) = (y1 - y0) * (v - x0) := by unfold wrap64; omega
  have w2 : wrap64 (((y1 - y0) * (v - x0)).tdiv (x1 - x0)) = ((y1 - y0) * (v - x0)).tdiv (x1 - x0) := by unfold wrap64; omega
  clear F h h0 h1
  go_enter Tryd.func49, Tryd.ntmps49
  go_wp2_with fail
  generalize w.alloc (.cells #[.int .i64 x0, .int .i64 y0, .int .i64 x1, .int .i64 y1] 26) = wa at *
  go_quiet (fail)
  go_wp2_with fail
  go_ret
  exact ⟨by rw [HL.out]; rfl, K.out.drewN nq⟩
end Go.Proofs.YtfofghakjjblfaaDoor
