/- The walk of LassoRects. -/
import Derived.Test.YtboocllckolmgaaX
namespace Go.Proofs.Ytboocllckolmgaa
open Go.RowKit
set_option linter.unusedVariables false

set_option maxRecDepth 100000 in
set_option maxHeartbeats 1600000 in
theorem rects_out0 (W0 : World) (x y w h : Int) (b : Bool)  (k0 : x < 0) : Calls Try.prog 10 #[.int .i64 x, .int .i64 y, .int .i64 w, .int .i64 h, .bool b] W0 (Yes W0) := by
  have CA := Lib.hid (anchor_any W0)
  have u0 : decide (x < 0) = true := by simpa using k0
  clear k0
  go_enter Try.func10, Try.ntmps10
  go_wp2_with fail
  refine CA.out.mono ?_
  rintro e w1 ⟨rfl, hb⟩
  have X := Lib.hid hb
  clear hb CA
  go_wp2_with fail
  go_ret
  exact ⟨rfl, X.out⟩

set_option maxRecDepth 100000 in
set_option maxHeartbeats 1600000 in
theorem rects_out1 (W0 : World) (x y w h : Int) (b : Bool) (k0 : ¬ x < 0) (k1 : y < 0) : Calls Try.prog 10 #[.int .i64 x, .int .i64 y, .int .i64 w, .int .i64 h, .bool b] W0 (Yes W0) := by
  have CA := Lib.hid (anchor_any W0)
  have u0 : decide (x < 0) = false := by simpa using k0
  have u1 : decide (y < 0) = true := by simpa using k1
  clear k0 k1
  go_enter Try.func10, Try.ntmps10
  go_wp2_with fail
  refine CA.out.mono ?_
  rintro e w1 ⟨rfl, hb⟩
  have X := Lib.hid hb
  clear hb CA
  go_wp2_with fail
  go_ret
  exact ⟨rfl, X.out⟩

set_option maxRecDepth 100000 in
set_option maxHeartbeats 1600000 in
theorem rects_out2 (W0 : World) (x y w h : Int) (b : Bool) (k0 : ¬ x < 0) (k1 : ¬ y < 0) (k2 : w < 0) : Calls Try.prog 10 #[.int .i64 x, .int .i64 y, .int .i64 w, .int .i64 h, .bool b] W0 (Yes W0) := by
  have CA := Lib.hid (anchor_any W0)
  have u0 : decide (x < 0) = false := by simpa using k0
  have u1 : decide (y < 0) = false := by simpa using k1
  have u2 : decide (w < 0) = true := by simpa using k2
  clear k0 k1 k2
  go_enter Try.func10, Try.ntmps10
  go_wp2_with fail
  refine CA.out.mono ?_
  rintro e w1 ⟨rfl, hb⟩
  have X := Lib.hid hb
  clear hb CA
  go_wp2_with fail
  go_ret
  exact ⟨rfl, X.out⟩

set_option maxRecDepth 100000 in
set_option maxHeartbeats 1600000 in
theorem rects_out3 (W0 : World) (x y w h : Int) (b : Bool) (k0 : ¬ x < 0) (k1 : ¬ y < 0) (k2 : ¬ w < 0) (k3 : h < 0) : Calls Try.prog 10 #[.int .i64 x, .int .i64 y, .int .i64 w, .int .i64 h, .bool b] W0 (Yes W0) := by
  have CA := Lib.hid (anchor_any W0)
  have u0 : decide (x < 0) = false := by simpa using k0
  have u1 : decide (y < 0) = false := by simpa using k1
  have u2 : decide (w < 0) = false := by simpa using k2
  have u3 : decide (h < 0) = true := by simpa using k3
  clear k0 k1 k2 k3
  go_enter Try.func10, Try.ntmps10
  go_wp2_with fail
  refine CA.out.mono ?_
  rintro e w1 ⟨rfl, hb⟩
  have X := Lib.hid hb
  clear hb CA
  go_wp2_with fail
  go_ret
  exact ⟨rfl, X.out⟩

set_option maxRecDepth 100000 in
set_option maxHeartbeats 1600000 in
theorem rects_out4 (W0 : World) (x y w h : Int) (b : Bool) (k0 : ¬ x < 0) (k1 : ¬ y < 0) (k2 : ¬ w < 0) (k3 : ¬ h < 0) (k4 : (12 : Int) < x) : Calls Try.prog 10 #[.int .i64 x, .int .i64 y, .int .i64 w, .int .i64 h, .bool b] W0 (Yes W0) := by
  have CA := Lib.hid (anchor_any W0)
  have u0 : decide (x < 0) = false := by simpa using k0
  have u1 : decide (y < 0) = false := by simpa using k1
  have u2 : decide (w < 0) = false := by simpa using k2
  have u3 : decide (h < 0) = false := by simpa using k3
  have u4 : decide ((12 : Int) < x) = true := by simpa using k4
  clear k0 k1 k2 k3 k4
  go_enter Try.func10, Try.ntmps10
  go_wp2_with fail
  refine CA.out.mono ?_
  rintro e w1 ⟨rfl, hb⟩
  have X := Lib.hid hb
  clear hb CA
  go_wp2_with fail
  go_ret
  exact ⟨rfl, X.out⟩

set_option maxRecDepth 100000 in
set_option maxHeartbeats 1600000 in
theorem rects_out5 (W0 : World) (x y w h : Int) (b : Bool) (k0 : ¬ x < 0) (k1 : ¬ y < 0) (k2 : ¬ w < 0) (k3 : ¬ h < 0) (k4 : ¬ (12 : Int) < x) (k5 : (12 : Int) < y) : Calls Try.prog 10 #[.int .i64 x, .int .i64 y, .int .i64 w, .int .i64 h, .bool b] W0 (Yes W0) := by
  have CA := Lib.hid (anchor_any W0)
  have u0 : decide (x < 0) = false := by simpa using k0
  have u1 : decide (y < 0) = false := by simpa using k1
  have u2 : decide (w < 0) = false := by simpa using k2
  have u3 : decide (h < 0) = false := by simpa using k3
  have u4 : decide ((12 : Int) < x) = false := by simpa using k4
  have u5 : decide ((12 : Int) < y) = true := by simpa using k5
  clear k0 k1 k2 k3 k4 k5
  go_enter Try.func10, Try.ntmps10
  go_wp2_with fail
  refine CA.out.mono ?_
  rintro e w1 ⟨rfl, hb⟩
  have X := Lib.hid hb
  clear hb CA
  go_wp2_with fail
  go_ret
  exact ⟨rfl, X.out⟩

set_option maxRecDepth 100000 in
set_option maxHeartbeats 1600000 in
theorem rects_out6 (W0 : World) (x y w h : Int) (b : Bool) (k0 : ¬ x < 0) (k1 : ¬ y < 0) (k2 : ¬ w < 0) (k3 : ¬ h < 0) (k4 : ¬ (12 : Int) < x) (k5 : ¬ (12 : Int) < y) (k6 : (12 : Int) < w) : Calls Try.prog 10 #[.int .i64 x, .int .i64 y, .int .i64 w, .int .i64 h, .bool b] W0 (Yes W0) := by
  have CA := Lib.hid (anchor_any W0)
  have u0 : decide (x < 0) = false := by simpa using k0
  have u1 : decide (y < 0) = false := by simpa using k1
  have u2 : decide (w < 0) = false := by simpa using k2
  have u3 : decide (h < 0) = false := by simpa using k3
  have u4 : decide ((12 : Int) < x) = false := by simpa using k4
  have u5 : decide ((12 : Int) < y) = false := by simpa using k5
  have u6 : decide ((12 : Int) < w) = true := by simpa using k6
  clear k0 k1 k2 k3 k4 k5 k6
  go_enter Try.func10, Try.ntmps10
  go_wp2_with fail
  refine CA.out.mono ?_
  rintro e w1 ⟨rfl, hb⟩
  have X := Lib.hid hb
  clear hb CA
  go_wp2_with fail
  go_ret
  exact ⟨rfl, X.out⟩

set_option maxRecDepth 100000 in
set_option maxHeartbeats 1600000 in
theorem rects_out7 (W0 : World) (x y w h : Int) (b : Bool) (k0 : ¬ x < 0) (k1 : ¬ y < 0) (k2 : ¬ w < 0) (k3 : ¬ h < 0) (k4 : ¬ (12 : Int) < x) (k5 : ¬ (12 : Int) < y) (k6 : ¬ (12 : Int) < w) (k7 : (12 : Int) < h) : Calls Try.prog 10 #[.int .i64 x, .int .i64 y, .int .i64 w, .int .i64 h, .bool b] W0 (Yes W0) := by
  have CA := Lib.hid (anchor_any W0)
  have u0 : decide (x < 0) = false := by simpa using k0
  have u1 : decide (y < 0) = false := by simpa using k1
  have u2 : decide (w < 0) = false := by simpa using k2
  have u3 : decide (h < 0) = false := by simpa using k3
  have u4 : decide ((12 : Int) < x) = false := by simpa using k4
  have u5 : decide ((12 : Int) < y) = false := by simpa using k5
  have u6 : decide ((12 : Int) < w) = false := by simpa using k6
  have u7 : decide ((12 : Int) < h) = true := by simpa using k7
  clear k0 k1 k2 k3 k4 k5 k6 k7
  go_enter Try.func10, Try.ntmps10
  go_wp2_with fail
  refine CA.out.mono ?_
  rintro e w1 ⟨rfl, hb⟩
  have X := Lib.hid hb
  clear hb CA
  go_wp2_with fail
  go_ret
  exact ⟨rfl, X.out⟩

set_option maxRecDepth 100000 in
set_option maxHeartbeats 12800000 in
theorem rects_flat (W0 : World) (x y w h : Nat) (hx : x ≤ 12) (hy : y ≤ 12) (hw : w ≤ 12) (hh : h ≤ 12) : Calls Try.prog 10 #[.int .i64 (x : Int), .int .i64 (y : Int), .int .i64 (w : Int), .int .i64 (h : Int), .bool false] W0 (Yes W0) := by
  have CA := Lib.hid (anchor_any W0)
  have u0 : decide ((x : Int) < 0) = false := by simp
  have u1 : decide ((y : Int) < 0) = false := by simp
  have u2 : decide ((w : Int) < 0) = false := by simp
  have u3 : decide ((h : Int) < 0) = false := by simp
  have u4 : decide ((12 : Int) < (x : Int)) = false := by simp; omega
  have u5 : decide ((12 : Int) < (y : Int)) = false := by simp; omega
  have u6 : decide ((12 : Int) < (w : Int)) = false := by simp; omega
  have u7 : decide ((12 : Int) < (h : Int)) = false := by simp; omega
  obtain ⟨B, hB⟩ : ∃ B, B = x + w := ⟨_, rfl⟩
  obtain ⟨D, hD⟩ : ∃ D, D = y + h := ⟨_, rfl⟩
  have bB : -9223372036854775808 ≤ (B : Int) ∧ (B : Int) ≤ 9223372036854775807 := by omega
  have bD : -9223372036854775808 ≤ (D : Int) ∧ (D : Int) ≤ 9223372036854775807 := by omega
  have j3 : (x : Int) + (w : Int) = (B : Int) := by omega
  have j4 : (y : Int) + (h : Int) = (D : Int) := by omega
  have hft : ∀ p ∈ rectL (x : Int) (y : Int) (B : Int) (D : Int), Fits p ∧ near p = true := by
    intro p hp
    simp only [rectL, List.mem_cons, List.not_mem_nil, or_false] at hp
    rcases hp with rfl | rfl | rfl | rfl <;> exact ⟨⟨by simp only; omega, by simp only; omega⟩, near_iff.2 ⟨by simp only; omega, by simp only; omega⟩⟩
  have hsh := shape_rect (ps := rectL (x : Int) (y : Int) (B : Int) (D : Int)) rfl (fun p hp => (hft p hp).2)
  have P0 := Lib.hid (fun W1 => pts_lit W1 #[.int .i64 x, .int .i64 y, .int .i64 B, .int .i64 y, .int .i64 B, .int .i64 D, .int .i64 x, .int .i64 D] 37 (rectL (x : Int) (y : Int) (B : Int) (D : Int)) rfl (fun p hp => (hft p hp).1))
  have HSH := Lib.hid hsh
  have HMS0 := Lib.hid (fun i => mask_rect (ps := rectL (x : Int) (y : Int) (B : Int) (D : Int)) (X := x) (Y := y) (W := w) (H := h) (fun q => by rw [← hB, ← hD]; exact inside_rectL (by omega) (by omega) q) i)
  obtain ⟨M, hM⟩ : ∃ M, M = w * h := ⟨_, rfl⟩
  have hM2 : M ≤ 144 := by rw [hM]; exact Nat.le_trans (Nat.mul_le_mul hw hh) (by decide)
  have x0 : (w : Int) * (h : Int) = (M : Int) := by rw [hM]; exact (Int.natCast_mul w h).symm
  have a0 : areaZ (rectL (x : Int) (y : Int) (B : Int) (D : Int)) = 2 * (M : Int) := by
    rw [area_rectL]
    have e1 : (B : Int) - (x : Int) = (w : Int) := by omega
    have e2 : (D : Int) - (y : Int) = (h : Int) := by omega
    rw [e1, e2, x0]
  have HAR := Lib.hid a0
  have bM : -9223372036854775808 ≤ (M : Int) ∧ (M : Int) ≤ 9223372036854775807 := by omega
  have b2M : -9223372036854775808 ≤ 2 * (M : Int) ∧ 2 * (M : Int) ≤ 9223372036854775807 := by omega
  have z1 : wrap64 ((w : Int) * (h : Int)) = (M : Int) := by rw [x0]; exact w64 _ bM.1 bM.2
  have z2 : wrap64 (2 * (M : Int)) = 2 * (M : Int) := w64 _ b2M.1 b2M.2
  have HMM := Lib.hid hM
  have HEX := Lib.hid (And.intro hB (And.intro hD (show x + w ≤ 26 ∧ y + h ≤ 26 by omega)))
  have j1 : wrap64 ((x : Int) + (w : Int)) = (B : Int) := by rw [j3]; exact w64 _ bB.1 bB.2
  have j2 : wrap64 ((y : Int) + (h : Int)) = (D : Int) := by rw [j4]; exact w64 _ bD.1 bD.2
  have Z1 := Lib.hid z1
  have Z2 := Lib.hid z2
  clear hx hy hw hh hft hsh bB bD hB hD hM a0 x0 hM2 bM b2M j3 j4 z1 z2
  go_enter Try.func10, Try.ntmps10
  go_wp2_with fail
  refine CA.out.mono ?_
  rintro e w1 ⟨rfl, hb⟩
  have H1 := Lib.hid (show Pts (w1.alloc (.cells #[.int .i64 x, .int .i64 y, .int .i64 B, .int .i64 y, .int .i64 B, .int .i64 D, .int .i64 x, .int .i64 D] 37)) (some ⟨w1.heap.size, 0, none⟩) 4 (rectL (x : Int) (y : Int) (B : Int) (D : Int)) ∧ Below W0.heap.size W0 (w1.alloc (.cells #[.int .i64 x, .int .i64 y, .int .i64 B, .int .i64 y, .int .i64 B, .int .i64 D, .int .i64 x, .int .i64 D] 37)) from ⟨P0.out w1, below_more hb ((Below.refl _ _).alloc (Nat.le_refl _) _) (Nat.le_refl _)⟩)
  clear hb CA P0
  go_wp2_with fail
  have H2 := Lib.hid H1.out
  clear H1
  generalize w1.alloc (.cells #[.int .i64 x, .int .i64 y, .int .i64 B, .int .i64 y, .int .i64 B, .int .i64 D, .int .i64 x, .int .i64 D] 37) = wS at *
  have CM := Lib.hid (fun h => show Calls Try.prog 17 #[.slice (some ⟨w1.heap.size, 0, none⟩) 4 4, .int .i64 26, .int .i64 26] wS (MaskSays wS (rectL (x : Int) (y : Int) (B : Int) (D : Int)) 26 26) from mask_yes wS (some ⟨w1.heap.size, 0, none⟩) 4 4 (rectL (x : Int) (y : Int) (B : Int) (D : Int)) 26 26 h HSH.out (by decide +kernel))
  go_wp2_with fail
  refine (CM.out H2.out.1).mono ?_
  rintro e w4 ⟨G, rfl, hm, hG, hb⟩
  have HM := Lib.hid (And.intro (show MaskB w4 G 676 (maskF (rectL (x : Int) (y : Int) (B : Int) (D : Int)) 26) from hm) (And.intro (H2.out.1.below hb) (below_more H2.out.2 hb (Nat.le_refl _))))
  clear hb hm hG CM H2
  go_wp2_with fail
  obtain ⟨F, hF⟩ : ∃ F, F = spotR x y w h := ⟨_, rfl⟩
  have HF := Lib.hid hF
  clear hF
  go_loopw [15, 105] (fun vn cnt wr => ∃ i : Nat, i ≤ 676 ∧ cnt = .int .i64 i ∧ vn = .int .i64 (cntTo F i : Nat) ∧ Below w4.heap.size w4 wr) (fun _ cnt _ => 676 - (intOf cnt).toNat)
  case atStart => exact ⟨0, Nat.zero_le _, rfl, rfl, Below.refl _ _⟩
  case round =>
    obtain ⟨i, hi, rfl, rfl, hb⟩ := hrel
    by_cases hlt : i < 676
    · have c0 := ((HM.out.1.below hb).cell (j := i) hlt).1
      rw [HMS0.out i, ← HF.out] at c0
      have hcl := cntTo_le F i
      have hcs : cntTo F (i + 1) = cntTo F i + (if F i = true then 1 else 0) := rfl
      have hFi : F i = (decide (x ≤ i % 26) && (decide (i % 26 < B) && (decide (y ≤ i / 26) && decide (i / 26 < D)))) := by rw [HF.out, HEX.out.1, HEX.out.2.1]; rfl
      have k1 : ((i : Int).tmod 26) = ((i % 26 : Nat) : Int) := rfl
      have k2 : ((i : Int).tdiv 26) = ((i / 26 : Nat) : Int) := rfl
      have bq : -9223372036854775808 ≤ ((i / 26 : Nat) : Int) ∧ ((i / 26 : Nat) : Int) ≤ 9223372036854775807 := by clear j1 j2; omega
      obtain ⟨C, hC⟩ : ∃ C, C = cntTo F i := ⟨_, rfl⟩
      rw [← hC] at hcl hcs
      rw [← hC]
      have bc : -9223372036854775808 ≤ ((C + 1 : Nat) : Int) ∧ ((C + 1 : Nat) : Int) ≤ 9223372036854775807 := by clear j1 j2; omega
      have bc0 : -9223372036854775808 ≤ (C : Int) ∧ (C : Int) ≤ 9223372036854775807 := by clear j1 j2; omega
      have q2 : (C : Int) + 1 = ((C + 1 : Nat) : Int) := by omega
      obtain ⟨C1, hC1⟩ : ∃ C1, C1 = C + 1 := ⟨_, rfl⟩
      rw [← hC1] at q2 bc
      generalize i % 26 = MX at *
      generalize i / 26 = MY at *
      have k3 : IntKind.i64.wrap (MY : Int) = (MY : Int) := wrap_i64 _ bq.1 bq.2
      have k6 : wrap64 (MY : Int) = (MY : Int) := w64 _ bq.1 bq.2
      have q1 : wrap64 ((C : Int) + 1) = (C1 : Int) := by rw [q2]; exact w64 _ bc.1 bc.2
      have q3 : wrap64 (C : Int) = (C : Int) := w64 _ bc0.1 bc0.2
      clear bq bc q2 bc0
      have HB := Lib.hid hb
      have HI := Lib.hid hi
      have HCS := Lib.hid hcs
      have HC1 := Lib.hid hC1
      clear hb hC hi hcs hC1 hcl
      by_cases p0 : x ≤ MX
      · skip
        by_cases p1 : MX < B
        · skip
          by_cases p2 : y ≤ MY
          · skip
            by_cases p3 : MY < D
            · skip
              have v0 : decide ((x : Int) ≤ (MX : Int)) = true := decide_eq_true (Int.ofNat_le.2 p0)
              have n0 : decide (x ≤ MX) = true := decide_eq_true p0
              have v1 : decide ((MX : Int) < (B : Int)) = true := decide_eq_true (Int.ofNat_lt.2 p1)
              have n1 : decide (MX < B) = true := decide_eq_true p1
              have v2 : decide ((y : Int) ≤ (MY : Int)) = true := decide_eq_true (Int.ofNat_le.2 p2)
              have n2 : decide (y ≤ MY) = true := decide_eq_true p2
              have v3 : decide ((MY : Int) < (D : Int)) = true := decide_eq_true (Int.ofNat_lt.2 p3)
              have n3 : decide (MY < D) = true := decide_eq_true p3
              have e1 : F i = true := by rw [hFi, n0, n1, n2, n3]; rfl
              rw [e1] at c0 HCS
              clear hFi e1 n0 n1 n2 n3
              have c1 : wr.cell? ⟨G, i, none⟩ = some (.int .u8 255) := c0
              have XC := Lib.hid (show C1 = cntTo F (i + 1) by rw [HCS.out, HC1.out]; rfl)
              clear c0 HCS HC1
              go_wp2_with fail
              go_roundw
              case rel => exact ⟨i + 1, hlt, by go_num, (by rw [← XC.out]; first | rfl | simp only [q1] | simp only [q3]), HB.out⟩
              case measure => simp [intOf]; omega
            · skip
              have v0 : decide ((x : Int) ≤ (MX : Int)) = true := decide_eq_true (Int.ofNat_le.2 p0)
              have n0 : decide (x ≤ MX) = true := decide_eq_true p0
              have v1 : decide ((MX : Int) < (B : Int)) = true := decide_eq_true (Int.ofNat_lt.2 p1)
              have n1 : decide (MX < B) = true := decide_eq_true p1
              have v2 : decide ((y : Int) ≤ (MY : Int)) = true := decide_eq_true (Int.ofNat_le.2 p2)
              have n2 : decide (y ≤ MY) = true := decide_eq_true p2
              have v3 : decide ((MY : Int) < (D : Int)) = false := decide_eq_false (fun q => p3 (Int.ofNat_lt.1 q))
              have n3 : decide (MY < D) = false := decide_eq_false p3
              have e1 : F i = false := by rw [hFi, n0, n1, n2, n3]; rfl
              rw [e1] at c0 HCS
              clear hFi e1 n0 n1 n2 n3
              have c1 : wr.cell? ⟨G, i, none⟩ = some (.int .u8 0) := c0
              have XC := Lib.hid (show C = cntTo F (i + 1) by rw [HCS.out]; rfl)
              clear c0 HCS HC1 q1
              go_wp2_with fail
              go_roundw
              case rel => exact ⟨i + 1, hlt, by go_num, (by rw [← XC.out]; first | rfl | simp only [q1] | simp only [q3]), HB.out⟩
              case measure => simp [intOf]; omega
          · skip
            have v0 : decide ((x : Int) ≤ (MX : Int)) = true := decide_eq_true (Int.ofNat_le.2 p0)
            have n0 : decide (x ≤ MX) = true := decide_eq_true p0
            have v1 : decide ((MX : Int) < (B : Int)) = true := decide_eq_true (Int.ofNat_lt.2 p1)
            have n1 : decide (MX < B) = true := decide_eq_true p1
            have v2 : decide ((y : Int) ≤ (MY : Int)) = false := decide_eq_false (fun q => p2 (Int.ofNat_le.1 q))
            have n2 : decide (y ≤ MY) = false := decide_eq_false p2
            have e1 : F i = false := by rw [hFi, n0, n1, n2]; rfl
            rw [e1] at c0 HCS
            clear hFi e1 n0 n1 n2
            have c1 : wr.cell? ⟨G, i, none⟩ = some (.int .u8 0) := c0
            have XC := Lib.hid (show C = cntTo F (i + 1) by rw [HCS.out]; rfl)
            clear c0 HCS HC1 q1
            go_wp2_with fail
            go_roundw
            case rel => exact ⟨i + 1, hlt, by go_num, (by rw [← XC.out]; first | rfl | simp only [q1] | simp only [q3]), HB.out⟩
            case measure => simp [intOf]; omega
        · skip
          have v0 : decide ((x : Int) ≤ (MX : Int)) = true := decide_eq_true (Int.ofNat_le.2 p0)
          have n0 : decide (x ≤ MX) = true := decide_eq_true p0
          have v1 : decide ((MX : Int) < (B : Int)) = false := decide_eq_false (fun q => p1 (Int.ofNat_lt.1 q))
          have n1 : decide (MX < B) = false := decide_eq_false p1
          have e1 : F i = false := by rw [hFi, n0, n1]; rfl
          rw [e1] at c0 HCS
          clear hFi e1 n0 n1
          have c1 : wr.cell? ⟨G, i, none⟩ = some (.int .u8 0) := c0
          have XC := Lib.hid (show C = cntTo F (i + 1) by rw [HCS.out]; rfl)
          clear c0 HCS HC1 q1
          go_wp2_with fail
          go_roundw
          case rel => exact ⟨i + 1, hlt, by go_num, (by rw [← XC.out]; first | rfl | simp only [q1] | simp only [q3]), HB.out⟩
          case measure => simp [intOf]; omega
      · skip
        have v0 : decide ((x : Int) ≤ (MX : Int)) = false := decide_eq_false (fun q => p0 (Int.ofNat_le.1 q))
        have n0 : decide (x ≤ MX) = false := decide_eq_false p0
        have e1 : F i = false := by rw [hFi, n0]; rfl
        rw [e1] at c0 HCS
        clear hFi e1 n0
        have c1 : wr.cell? ⟨G, i, none⟩ = some (.int .u8 0) := c0
        have XC := Lib.hid (show C = cntTo F (i + 1) by rw [HCS.out]; rfl)
        clear c0 HCS HC1 q1
        go_wp2_with fail
        go_roundw
        case rel => exact ⟨i + 1, hlt, by go_num, (by rw [← XC.out]; first | rfl | simp only [q1] | simp only [q3]), HB.out⟩
        case measure => simp [intOf]; omega
    · obtain rfl : i = 676 := by omega
      have hc : cntTo F 676 = w * h := by rw [HF.out]; exact cnt_whole HEX.out.2.2.1 HEX.out.2.2.2
      rw [hc, ← HMM.out]
      have H5 := Lib.hid (And.intro (HM.out.2.1.below hb) (below_more HM.out.2.2 hb (Nat.le_refl _)))
      clear hb hc HM HF HMS0
      have CAr := Lib.hid (fun h => area_yes wr (some ⟨w1.heap.size, 0, none⟩) 4 4 (rectL (x : Int) (y : Int) (B : Int) (D : Int)) h HSH.out)
      rw [HAR.out] at CAr
      have z1 := Z1.out
      have z2 := Z2.out
      go_wp2_with fail
      refine (CAr.out H5.out.1).mono ?_
      rintro e w6 ⟨rfl, hb⟩
      have X := Lib.hid (below_more H5.out.2 hb (Nat.le_refl _))
      clear hb H5 CAr
      go_wp2_with fail
      go_ret
      exact ⟨rfl, X.out⟩

set_option maxRecDepth 100000 in
set_option maxHeartbeats 12800000 in
theorem rects_turned (W0 : World) (x y w h : Nat) (hx : x ≤ 12) (hy : y ≤ 12) (hw : w ≤ 12) (hh : h ≤ 12) : Calls Try.prog 10 #[.int .i64 (x : Int), .int .i64 (y : Int), .int .i64 (w : Int), .int .i64 (h : Int), .bool true] W0 (Yes W0) := by
  have CA := Lib.hid (anchor_any W0)
  have u0 : decide ((x : Int) < 0) = false := by simp
  have u1 : decide ((y : Int) < 0) = false := by simp
  have u2 : decide ((w : Int) < 0) = false := by simp
  have u3 : decide ((h : Int) < 0) = false := by simp
  have u4 : decide ((12 : Int) < (x : Int)) = false := by simp; omega
  have u5 : decide ((12 : Int) < (y : Int)) = false := by simp; omega
  have u6 : decide ((12 : Int) < (w : Int)) = false := by simp; omega
  have u7 : decide ((12 : Int) < (h : Int)) = false := by simp; omega
  obtain ⟨B, hB⟩ : ∃ B, B = x + w := ⟨_, rfl⟩
  obtain ⟨D, hD⟩ : ∃ D, D = y + h := ⟨_, rfl⟩
  have bB : -9223372036854775808 ≤ (B : Int) ∧ (B : Int) ≤ 9223372036854775807 := by omega
  have bD : -9223372036854775808 ≤ (D : Int) ∧ (D : Int) ≤ 9223372036854775807 := by omega
  have j3 : (x : Int) + (w : Int) = (B : Int) := by omega
  have j4 : (y : Int) + (h : Int) = (D : Int) := by omega
  have hft : ∀ p ∈ rectL (x : Int) (y : Int) (B : Int) (D : Int), Fits p ∧ near p = true := by
    intro p hp
    simp only [rectL, List.mem_cons, List.not_mem_nil, or_false] at hp
    rcases hp with rfl | rfl | rfl | rfl <;> exact ⟨⟨by simp only; omega, by simp only; omega⟩, near_iff.2 ⟨by simp only; omega, by simp only; omega⟩⟩
  have hsh := shape_rect (ps := rectL (x : Int) (y : Int) (B : Int) (D : Int)) rfl (fun p hp => (hft p hp).2)
  have P0 := Lib.hid (fun W1 => pts_lit W1 #[.int .i64 x, .int .i64 y, .int .i64 B, .int .i64 y, .int .i64 B, .int .i64 D, .int .i64 x, .int .i64 D] 37 (rectL (x : Int) (y : Int) (B : Int) (D : Int)) rfl (fun p hp => (hft p hp).1))
  obtain ⟨X, hX⟩ : ∃ X, X = 24 - D := ⟨_, rfl⟩
  obtain ⟨U, hU⟩ : ∃ U, U = 24 - y := ⟨_, rfl⟩
  have t1 : (x : Int) * 0 - (y : Int) * 1 + 24 = (U : Int) := by omega
  have t2 : (x : Int) * 1 + (y : Int) * 0 + 0 = (x : Int) := by omega
  have t3 : (B : Int) * 0 - (y : Int) * 1 + 24 = (U : Int) := by omega
  have t4 : (B : Int) * 1 + (y : Int) * 0 + 0 = (B : Int) := by omega
  have t5 : (B : Int) * 0 - (D : Int) * 1 + 24 = (X : Int) := by omega
  have t6 : (B : Int) * 1 + (D : Int) * 0 + 0 = (B : Int) := by omega
  have t7 : (x : Int) * 0 - (D : Int) * 1 + 24 = (X : Int) := by omega
  have t8 : (x : Int) * 1 + (D : Int) * 0 + 0 = (x : Int) := by omega
  have hT : turned (rectL (x : Int) (y : Int) (B : Int) (D : Int)) ⟨0, 1⟩ ⟨24, 0⟩ = rectR (X : Int) (x : Int) (U : Int) (B : Int) := by
    simp only [turned, rectL, rectR, List.map_cons, List.map_nil, timesZ, t1, t2, t3, t4, t5, t6, t7, t8]
  have hft2 : ∀ p ∈ rectR (X : Int) (x : Int) (U : Int) (B : Int), near p = true := by
    intro p hp
    simp only [rectR, List.mem_cons, List.not_mem_nil, or_false] at hp
    rcases hp with rfl | rfl | rfl | rfl <;> exact near_iff.2 ⟨by simp only; omega, by simp only; omega⟩
  have hok : (shape (rectL (x : Int) (y : Int) (B : Int) (D : Int)) && (near ⟨0, 1⟩ && near ⟨24, 0⟩) && (turned (rectL (x : Int) (y : Int) (B : Int) (D : Int)) ⟨0, 1⟩ ⟨24, 0⟩).all near) = true := by
    rw [hsh, hT, List.all_eq_true.2 hft2]; decide +kernel
  have HOK := Lib.hid (And.intro hok hT)
  have HSH := Lib.hid (shape_rect (ps := rectR (X : Int) (x : Int) (U : Int) (B : Int)) rfl hft2)
  have HMS := Lib.hid (fun i => mask_rect (ps := rectR (X : Int) (x : Int) (U : Int) (B : Int)) (X := X) (Y := x) (W := h) (H := w) (fun q => by
    have e1 : ((X + h : Nat) : Int) = (U : Int) := by omega
    have e2 : ((x + w : Nat) : Int) = (B : Int) := by omega
    rw [e1, e2]; exact inside_rectR (by omega) (by omega) q) i)
  obtain ⟨M, hM⟩ : ∃ M, M = h * w := ⟨_, rfl⟩
  have hM2 : M ≤ 144 := by rw [hM]; exact Nat.le_trans (Nat.mul_le_mul hh hw) (by decide)
  have x0 : (h : Int) * (w : Int) = (M : Int) := by rw [hM]; exact (Int.natCast_mul h w).symm
  have a0 : areaZ (rectR (X : Int) (x : Int) (U : Int) (B : Int)) = 2 * (M : Int) := by
    rw [area_rectR]
    have e1 : (U : Int) - (X : Int) = (h : Int) := by omega
    have e2 : (B : Int) - (x : Int) = (w : Int) := by omega
    rw [e1, e2, x0]
  have HAR := Lib.hid a0
  have bM : -9223372036854775808 ≤ (M : Int) ∧ (M : Int) ≤ 9223372036854775807 := by omega
  have b2M : -9223372036854775808 ≤ 2 * (M : Int) ∧ 2 * (M : Int) ≤ 9223372036854775807 := by omega
  have bX : -9223372036854775808 ≤ (X : Int) ∧ (X : Int) ≤ 9223372036854775807 := by omega
  have bU : -9223372036854775808 ≤ (U : Int) ∧ (U : Int) ≤ 9223372036854775807 := by omega
  have s1 : 24 - (y : Int) = (U : Int) := by omega
  have s2 : (U : Int) - (h : Int) = (X : Int) := by omega
  have s3 : (X : Int) + (h : Int) = (U : Int) := by omega
  have HMM := Lib.hid hM
  have HEX := Lib.hid (And.intro (show U = X + h by omega) (And.intro hB (show X + h ≤ 26 ∧ x + w ≤ 26 by omega)))
  have z1 : wrap64 ((h : Int) * (w : Int)) = (M : Int) := by rw [x0]; exact w64 _ bM.1 bM.2
  have z2 : wrap64 (2 * (M : Int)) = 2 * (M : Int) := w64 _ b2M.1 b2M.2
  have y1 : wrap64 (24 - (y : Int)) = (U : Int) := by rw [s1]; exact w64 _ bU.1 bU.2
  have y2 : wrap64 ((U : Int) - (h : Int)) = (X : Int) := by rw [s2]; exact w64 _ bX.1 bX.2
  have y3 : wrap64 ((X : Int) + (h : Int)) = (U : Int) := by rw [s3]; exact w64 _ bU.1 bU.2
  clear t1 t2 t3 t4 t5 t6 t7 t8 hT hft2 hok s1 s2 s3 bX bU hX hU
  have j1 : wrap64 ((x : Int) + (w : Int)) = (B : Int) := by rw [j3]; exact w64 _ bB.1 bB.2
  have j2 : wrap64 ((y : Int) + (h : Int)) = (D : Int) := by rw [j4]; exact w64 _ bD.1 bD.2
  have Z1 := Lib.hid z1
  have Z2 := Lib.hid z2
  clear hft hsh bB bD hx hy hw hh hB hD hM a0 x0 hM2 bM b2M j3 j4 z1 z2
  go_enter Try.func10, Try.ntmps10
  go_wp2_with fail
  refine CA.out.mono ?_
  rintro e w1 ⟨rfl, hb⟩
  have H1 := Lib.hid (show Pts (w1.alloc (.cells #[.int .i64 x, .int .i64 y, .int .i64 B, .int .i64 y, .int .i64 B, .int .i64 D, .int .i64 x, .int .i64 D] 37)) (some ⟨w1.heap.size, 0, none⟩) 4 (rectL (x : Int) (y : Int) (B : Int) (D : Int)) ∧ Below W0.heap.size W0 (w1.alloc (.cells #[.int .i64 x, .int .i64 y, .int .i64 B, .int .i64 y, .int .i64 B, .int .i64 D, .int .i64 x, .int .i64 D] 37)) from ⟨P0.out w1, below_more hb ((Below.refl _ _).alloc (Nat.le_refl _) _) (Nat.le_refl _)⟩)
  clear hb CA P0
  go_wp2_with fail
  generalize w1.alloc (.cells #[.int .i64 x, .int .i64 y, .int .i64 B, .int .i64 y, .int .i64 B, .int .i64 D, .int .i64 x, .int .i64 D] 37) = wS at *
  have CT := Lib.hid (fun h => turn_any wS (some ⟨w1.heap.size, 0, none⟩) 4 4 (rectL (x : Int) (y : Int) (B : Int) (D : Int)) ⟨0, 1⟩ ⟨24, 0⟩ h (by decide) (by unfold Fits; simp) (by unfold Fits; simp))
  rw [HOK.out.1, HOK.out.2] at CT
  go_wp2_with fail
  refine (CT.out H1.out.1).mono ?_
  rintro e w3 ⟨g, he, hp, hg, hb⟩
  subst he
  have H2 := Lib.hid (show Pts w3 (some ⟨g, 0, none⟩) 4 (rectR (X : Int) (x : Int) (U : Int) (B : Int)) ∧ Below W0.heap.size W0 w3 from ⟨hp, below_more H1.out.2 hb (Nat.le_refl _)⟩)
  clear hb hp hg CT H1 HOK
  have hlen : (rectR (X : Int) (x : Int) (U : Int) (B : Int)).length = 4 := rfl
  simp only [hlen]
  clear hlen
  have CM := Lib.hid (fun h => show Calls Try.prog 17 #[.slice (some ⟨g, 0, none⟩) 4 4, .int .i64 26, .int .i64 26] w3 (MaskSays w3 (rectR (X : Int) (x : Int) (U : Int) (B : Int)) 26 26) from mask_yes w3 (some ⟨g, 0, none⟩) 4 4 (rectR (X : Int) (x : Int) (U : Int) (B : Int)) 26 26 h HSH.out (by decide +kernel))
  go_wp2_with fail
  refine (CM.out H2.out.1).mono ?_
  rintro e w4 ⟨G, rfl, hm, hG, hb⟩
  have HM := Lib.hid (And.intro (show MaskB w4 G 676 (maskF (rectR (X : Int) (x : Int) (U : Int) (B : Int)) 26) from hm) (And.intro (H2.out.1.below hb) (below_more H2.out.2 hb (Nat.le_refl _))))
  clear hb hm hG CM H2
  go_wp2_with fail
  obtain ⟨F, hF⟩ : ∃ F, F = spotR X x h w := ⟨_, rfl⟩
  have HF := Lib.hid hF
  clear hF
  go_loopw [15, 105] (fun vn cnt wr => ∃ i : Nat, i ≤ 676 ∧ cnt = .int .i64 i ∧ vn = .int .i64 (cntTo F i : Nat) ∧ Below w4.heap.size w4 wr) (fun _ cnt _ => 676 - (intOf cnt).toNat)
  case atStart => exact ⟨0, Nat.zero_le _, rfl, rfl, Below.refl _ _⟩
  case round =>
    obtain ⟨i, hi, rfl, rfl, hb⟩ := hrel
    by_cases hlt : i < 676
    · have c0 := ((HM.out.1.below hb).cell (j := i) hlt).1
      rw [HMS.out i, ← HF.out] at c0
      have hcl := cntTo_le F i
      have hcs : cntTo F (i + 1) = cntTo F i + (if F i = true then 1 else 0) := rfl
      have hFi : F i = (decide (X ≤ i % 26) && (decide (i % 26 < U) && (decide (x ≤ i / 26) && decide (i / 26 < B)))) := by rw [HF.out, HEX.out.1, HEX.out.2.1]; rfl
      have k1 : ((i : Int).tmod 26) = ((i % 26 : Nat) : Int) := rfl
      have k2 : ((i : Int).tdiv 26) = ((i / 26 : Nat) : Int) := rfl
      have bq : -9223372036854775808 ≤ ((i / 26 : Nat) : Int) ∧ ((i / 26 : Nat) : Int) ≤ 9223372036854775807 := by clear j1 j2; omega
      obtain ⟨C, hC⟩ : ∃ C, C = cntTo F i := ⟨_, rfl⟩
      rw [← hC] at hcl hcs
      rw [← hC]
      have bc : -9223372036854775808 ≤ ((C + 1 : Nat) : Int) ∧ ((C + 1 : Nat) : Int) ≤ 9223372036854775807 := by clear j1 j2; omega
      have bc0 : -9223372036854775808 ≤ (C : Int) ∧ (C : Int) ≤ 9223372036854775807 := by clear j1 j2; omega
      have q2 : (C : Int) + 1 = ((C + 1 : Nat) : Int) := by omega
      obtain ⟨C1, hC1⟩ : ∃ C1, C1 = C + 1 := ⟨_, rfl⟩
      rw [← hC1] at q2 bc
      generalize i % 26 = MX at *
      generalize i / 26 = MY at *
      have k3 : IntKind.i64.wrap (MY : Int) = (MY : Int) := wrap_i64 _ bq.1 bq.2
      have k6 : wrap64 (MY : Int) = (MY : Int) := w64 _ bq.1 bq.2
      have q1 : wrap64 ((C : Int) + 1) = (C1 : Int) := by rw [q2]; exact w64 _ bc.1 bc.2
      have q3 : wrap64 (C : Int) = (C : Int) := w64 _ bc0.1 bc0.2
      clear bq bc q2 bc0
      have HB := Lib.hid hb
      have HI := Lib.hid hi
      have HCS := Lib.hid hcs
      have HC1 := Lib.hid hC1
      clear hb hC hi hcs hC1 hcl
      by_cases p0 : X ≤ MX
      · skip
        by_cases p1 : MX < U
        · skip
          by_cases p2 : x ≤ MY
          · skip
            by_cases p3 : MY < B
            · skip
              have v0 : decide ((X : Int) ≤ (MX : Int)) = true := decide_eq_true (Int.ofNat_le.2 p0)
              have n0 : decide (X ≤ MX) = true := decide_eq_true p0
              have v1 : decide ((MX : Int) < (U : Int)) = true := decide_eq_true (Int.ofNat_lt.2 p1)
              have n1 : decide (MX < U) = true := decide_eq_true p1
              have v2 : decide ((x : Int) ≤ (MY : Int)) = true := decide_eq_true (Int.ofNat_le.2 p2)
              have n2 : decide (x ≤ MY) = true := decide_eq_true p2
              have v3 : decide ((MY : Int) < (B : Int)) = true := decide_eq_true (Int.ofNat_lt.2 p3)
              have n3 : decide (MY < B) = true := decide_eq_true p3
              have e1 : F i = true := by rw [hFi, n0, n1, n2, n3]; rfl
              rw [e1] at c0 HCS
              clear hFi e1 n0 n1 n2 n3
              have c1 : wr.cell? ⟨G, i, none⟩ = some (.int .u8 255) := c0
              have XC := Lib.hid (show C1 = cntTo F (i + 1) by rw [HCS.out, HC1.out]; rfl)
              clear c0 HCS HC1
              go_wp2_with fail
              go_roundw
              case rel => exact ⟨i + 1, hlt, by go_num, (by rw [← XC.out]; first | rfl | simp only [q1] | simp only [q3]), HB.out⟩
              case measure => simp [intOf]; omega
            · skip
              have v0 : decide ((X : Int) ≤ (MX : Int)) = true := decide_eq_true (Int.ofNat_le.2 p0)
              have n0 : decide (X ≤ MX) = true := decide_eq_true p0
              have v1 : decide ((MX : Int) < (U : Int)) = true := decide_eq_true (Int.ofNat_lt.2 p1)
              have n1 : decide (MX < U) = true := decide_eq_true p1
              have v2 : decide ((x : Int) ≤ (MY : Int)) = true := decide_eq_true (Int.ofNat_le.2 p2)
              have n2 : decide (x ≤ MY) = true := decide_eq_true p2
              have v3 : decide ((MY : Int) < (B : Int)) = false := decide_eq_false (fun q => p3 (Int.ofNat_lt.1 q))
              have n3 : decide (MY < B) = false := decide_eq_false p3
              have e1 : F i = false := by rw [hFi, n0, n1, n2, n3]; rfl
              rw [e1] at c0 HCS
              clear hFi e1 n0 n1 n2 n3
              have c1 : wr.cell? ⟨G, i, none⟩ = some (.int .u8 0) := c0
              have XC := Lib.hid (show C = cntTo F (i + 1) by rw [HCS.out]; rfl)
              clear c0 HCS HC1 q1
              go_wp2_with fail
              go_roundw
              case rel => exact ⟨i + 1, hlt, by go_num, (by rw [← XC.out]; first | rfl | simp only [q1] | simp only [q3]), HB.out⟩
              case measure => simp [intOf]; omega
          · skip
            have v0 : decide ((X : Int) ≤ (MX : Int)) = true := decide_eq_true (Int.ofNat_le.2 p0)
            have n0 : decide (X ≤ MX) = true := decide_eq_true p0
            have v1 : decide ((MX : Int) < (U : Int)) = true := decide_eq_true (Int.ofNat_lt.2 p1)
            have n1 : decide (MX < U) = true := decide_eq_true p1
            have v2 : decide ((x : Int) ≤ (MY : Int)) = false := decide_eq_false (fun q => p2 (Int.ofNat_le.1 q))
            have n2 : decide (x ≤ MY) = false := decide_eq_false p2
            have e1 : F i = false := by rw [hFi, n0, n1, n2]; rfl
            rw [e1] at c0 HCS
            clear hFi e1 n0 n1 n2
            have c1 : wr.cell? ⟨G, i, none⟩ = some (.int .u8 0) := c0
            have XC := Lib.hid (show C = cntTo F (i + 1) by rw [HCS.out]; rfl)
            clear c0 HCS HC1 q1
            go_wp2_with fail
            go_roundw
            case rel => exact ⟨i + 1, hlt, by go_num, (by rw [← XC.out]; first | rfl | simp only [q1] | simp only [q3]), HB.out⟩
            case measure => simp [intOf]; omega
        · skip
          have v0 : decide ((X : Int) ≤ (MX : Int)) = true := decide_eq_true (Int.ofNat_le.2 p0)
          have n0 : decide (X ≤ MX) = true := decide_eq_true p0
          have v1 : decide ((MX : Int) < (U : Int)) = false := decide_eq_false (fun q => p1 (Int.ofNat_lt.1 q))
          have n1 : decide (MX < U) = false := decide_eq_false p1
          have e1 : F i = false := by rw [hFi, n0, n1]; rfl
          rw [e1] at c0 HCS
          clear hFi e1 n0 n1
          have c1 : wr.cell? ⟨G, i, none⟩ = some (.int .u8 0) := c0
          have XC := Lib.hid (show C = cntTo F (i + 1) by rw [HCS.out]; rfl)
          clear c0 HCS HC1 q1
          go_wp2_with fail
          go_roundw
          case rel => exact ⟨i + 1, hlt, by go_num, (by rw [← XC.out]; first | rfl | simp only [q1] | simp only [q3]), HB.out⟩
          case measure => simp [intOf]; omega
      · skip
        have v0 : decide ((X : Int) ≤ (MX : Int)) = false := decide_eq_false (fun q => p0 (Int.ofNat_le.1 q))
        have n0 : decide (X ≤ MX) = false := decide_eq_false p0
        have e1 : F i = false := by rw [hFi, n0]; rfl
        rw [e1] at c0 HCS
        clear hFi e1 n0
        have c1 : wr.cell? ⟨G, i, none⟩ = some (.int .u8 0) := c0
        have XC := Lib.hid (show C = cntTo F (i + 1) by rw [HCS.out]; rfl)
        clear c0 HCS HC1 q1
        go_wp2_with fail
        go_roundw
        case rel => exact ⟨i + 1, hlt, by go_num, (by rw [← XC.out]; first | rfl | simp only [q1] | simp only [q3]), HB.out⟩
        case measure => simp [intOf]; omega
    · obtain rfl : i = 676 := by omega
      have hc : cntTo F 676 = h * w := by rw [HF.out]; exact cnt_whole HEX.out.2.2.1 HEX.out.2.2.2
      rw [hc, ← HMM.out]
      have H5 := Lib.hid (And.intro (HM.out.2.1.below hb) (below_more HM.out.2.2 hb (Nat.le_refl _)))
      clear hb hc HM HF HMS
      have CAr := Lib.hid (fun h => area_yes wr (some ⟨g, 0, none⟩) 4 4 (rectR (X : Int) (x : Int) (U : Int) (B : Int)) h HSH.out)
      rw [HAR.out] at CAr
      have z1 := Z1.out
      have z2 := Z2.out
      go_wp2_with fail
      refine (CAr.out H5.out.1).mono ?_
      rintro e w6 ⟨rfl, hb⟩
      have X := Lib.hid (below_more H5.out.2 hb (Nat.le_refl _))
      clear hb H5 CAr
      go_wp2_with fail
      go_ret
      exact ⟨rfl, X.out⟩

theorem rects_law (W0 : World) (x y w h : Int) (b : Bool) (hx : -9223372036854775808 ≤ x ∧ x ≤ 9223372036854775807) (hy : -9223372036854775808 ≤ y ∧ y ≤ 9223372036854775807) (hw : -9223372036854775808 ≤ w ∧ w ≤ 9223372036854775807) (hh : -9223372036854775808 ≤ h ∧ h ≤ 9223372036854775807) : Calls Try.prog 10 #[.int .i64 x, .int .i64 y, .int .i64 w, .int .i64 h, .bool b] W0 (Yes W0) := by
  by_cases k0 : x < 0
  · exact rects_out0 W0 x y w h b k0
  by_cases k1 : y < 0
  · exact rects_out1 W0 x y w h b k0 k1
  by_cases k2 : w < 0
  · exact rects_out2 W0 x y w h b k0 k1 k2
  by_cases k3 : h < 0
  · exact rects_out3 W0 x y w h b k0 k1 k2 k3
  by_cases k4 : (12 : Int) < x
  · exact rects_out4 W0 x y w h b k0 k1 k2 k3 k4
  by_cases k5 : (12 : Int) < y
  · exact rects_out5 W0 x y w h b k0 k1 k2 k3 k4 k5
  by_cases k6 : (12 : Int) < w
  · exact rects_out6 W0 x y w h b k0 k1 k2 k3 k4 k5 k6
  by_cases k7 : (12 : Int) < h
  · exact rects_out7 W0 x y w h b k0 k1 k2 k3 k4 k5 k6 k7
  obtain ⟨x', rfl⟩ := Int.eq_ofNat_of_zero_le (show 0 ≤ x by omega)
  obtain ⟨y', rfl⟩ := Int.eq_ofNat_of_zero_le (show 0 ≤ y by omega)
  obtain ⟨w', rfl⟩ := Int.eq_ofNat_of_zero_le (show 0 ≤ w by omega)
  obtain ⟨h', rfl⟩ := Int.eq_ofNat_of_zero_le (show 0 ≤ h by omega)
  cases b with
  | false => exact rects_flat W0 x' y' w' h' (by omega) (by omega) (by omega) (by omega)
  | true => exact rects_turned W0 x' y' w' h' (by omega) (by omega) (by omega) (by omega)
end Go.Proofs.Ytboocllckolmgaa
