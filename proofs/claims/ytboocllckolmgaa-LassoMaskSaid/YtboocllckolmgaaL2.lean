/- The walk of LassoMask. -/
import Derived.Test.YtboocllckolmgaaMD
namespace Go.Proofs.Ytboocllckolmgaa
open Go.RowKit
set_option linter.unusedVariables false


set_option maxRecDepth 100000 in
set_option maxHeartbeats 3200000 in
theorem mask_no1 (w : World) (a : Option Addr) (n c : Nat) (ps : List Pt) (x y : Int) (h : Pts w a n ps) (hn : ¬ 1000 < n) (hs : shape ps = false) : Calls Try.prog 4 #[.slice a n c, .int .i64 x, .int .i64 y] w (Yes w) := by
  have CA := Lib.hid (anchor_any w)
  have HP := Lib.hid h
  have u : decide ((1000 : Int) < (n : Int)) = false := by simp; omega
  have HS := Lib.hid hs
  have HN := Lib.hid (show (shape ps && areaB x y) = false by rw [hs, Bool.false_and])
  clear h hs
  go_enter Try.func4, Try.ntmps4
  go_wp2_with fail
  refine CA.out.mono ?_
  rintro e w1 ⟨rfl, hb⟩
  have H1 := Lib.hid (And.intro (HP.out.below hb) hb)
  clear hb CA HP
  have CP := Lib.hid (plain_any w1 a n c ps H1.out.1 (by omega))
  have hl := H1.out.1.1
  go_wp2_with fail
  refine CP.out.mono ?_
  rintro e w2 ⟨aa, c3, rfl, hp, _, _, _, hb⟩
  rw [hl] at hp ⊢
  have H2 := Lib.hid (And.intro (H1.out.1.below hb) (And.intro hp (below_more H1.out.2 hb (Nat.le_refl _))))
  clear hb CP H1 hp hl
  have CS := Lib.hid (docShape_any w2 aa n c3 ps H2.out.2.1 (by omega))
  rw [HS.out] at CS
  go_wp2_with fail
  refine CS.out.mono ?_
  rintro e w3 ⟨rfl, hb⟩
  have H3 := Lib.hid (And.intro (H2.out.1.below hb) (And.intro (H2.out.2.1.below hb) (below_more H2.out.2.2 hb (Nat.le_refl _))))
  clear hb CS H2
  have CM := Lib.hid (fun w => fun (h : Pts w a n ps) => mask_no w a n c ps x y h (by omega) HN.out)
  go_wp2_with fail
  refine (CM.out w3 H3.out.1).mono ?_
  rintro e w4 ⟨rfl, hb⟩
  have X := Lib.hid (below_more H3.out.2.2 hb (Nat.le_refl _))
  clear hb CM H3
  go_wp2_with fail
  go_ret
  exact ⟨rfl, X.out⟩

set_option maxRecDepth 100000 in
set_option maxHeartbeats 3200000 in
theorem mask_no2 (w : World) (a : Option Addr) (n c : Nat) (ps : List Pt) (x y : Int) (h : Pts w a n ps) (hn : ¬ 1000 < n) (hs : shape ps = true)  (k0 : ¬ 0 ≤ x) : Calls Try.prog 4 #[.slice a n c, .int .i64 x, .int .i64 y] w (Yes w) := by
  have CA := Lib.hid (anchor_any w)
  have HP := Lib.hid h
  have u : decide ((1000 : Int) < (n : Int)) = false := by simp; omega
  have HS := Lib.hid hs
  have HN := Lib.hid (show (shape ps && areaB x y) = false by
    rw [hs, Bool.true_and]
    unfold areaB sideB
    simp
    omega)
  have u0 : decide (0 ≤ x) = false := by simpa using k0
  clear h hs k0
  go_enter Try.func4, Try.ntmps4
  go_wp2_with fail
  refine CA.out.mono ?_
  rintro e w1 ⟨rfl, hb⟩
  have H1 := Lib.hid (And.intro (HP.out.below hb) hb)
  clear hb CA HP
  have CP := Lib.hid (plain_any w1 a n c ps H1.out.1 (by omega))
  have hl := H1.out.1.1
  go_wp2_with fail
  refine CP.out.mono ?_
  rintro e w2 ⟨aa, c3, rfl, hp, _, _, _, hb⟩
  rw [hl] at hp ⊢
  have H2 := Lib.hid (And.intro (H1.out.1.below hb) (And.intro hp (below_more H1.out.2 hb (Nat.le_refl _))))
  clear hb CP H1 hp hl
  have CS := Lib.hid (docShape_any w2 aa n c3 ps H2.out.2.1 (by omega))
  rw [HS.out] at CS
  go_wp2_with fail
  refine CS.out.mono ?_
  rintro e w3 ⟨rfl, hb⟩
  have H3 := Lib.hid (And.intro (H2.out.1.below hb) (And.intro (H2.out.2.1.below hb) (below_more H2.out.2.2 hb (Nat.le_refl _))))
  clear hb CS H2
  have CM := Lib.hid (fun w => fun (h : Pts w a n ps) => mask_no w a n c ps x y h (by omega) HN.out)
  go_wp2_with fail
  refine (CM.out w3 H3.out.1).mono ?_
  rintro e w4 ⟨rfl, hb⟩
  have X := Lib.hid (below_more H3.out.2.2 hb (Nat.le_refl _))
  clear hb CM H3
  go_wp2_with fail
  go_ret
  exact ⟨rfl, X.out⟩

set_option maxRecDepth 100000 in
set_option maxHeartbeats 3200000 in
theorem mask_no3 (w : World) (a : Option Addr) (n c : Nat) (ps : List Pt) (x y : Int) (h : Pts w a n ps) (hn : ¬ 1000 < n) (hs : shape ps = true) (k0 : 0 ≤ x) (k1 : ¬ 0 ≤ y) : Calls Try.prog 4 #[.slice a n c, .int .i64 x, .int .i64 y] w (Yes w) := by
  have CA := Lib.hid (anchor_any w)
  have HP := Lib.hid h
  have u : decide ((1000 : Int) < (n : Int)) = false := by simp; omega
  have HS := Lib.hid hs
  have HN := Lib.hid (show (shape ps && areaB x y) = false by
    rw [hs, Bool.true_and]
    unfold areaB sideB
    simp
    omega)
  have u0 : decide (0 ≤ x) = true := by simpa using k0
  have u1 : decide (0 ≤ y) = false := by simpa using k1
  clear h hs k0 k1
  go_enter Try.func4, Try.ntmps4
  go_wp2_with fail
  refine CA.out.mono ?_
  rintro e w1 ⟨rfl, hb⟩
  have H1 := Lib.hid (And.intro (HP.out.below hb) hb)
  clear hb CA HP
  have CP := Lib.hid (plain_any w1 a n c ps H1.out.1 (by omega))
  have hl := H1.out.1.1
  go_wp2_with fail
  refine CP.out.mono ?_
  rintro e w2 ⟨aa, c3, rfl, hp, _, _, _, hb⟩
  rw [hl] at hp ⊢
  have H2 := Lib.hid (And.intro (H1.out.1.below hb) (And.intro hp (below_more H1.out.2 hb (Nat.le_refl _))))
  clear hb CP H1 hp hl
  have CS := Lib.hid (docShape_any w2 aa n c3 ps H2.out.2.1 (by omega))
  rw [HS.out] at CS
  go_wp2_with fail
  refine CS.out.mono ?_
  rintro e w3 ⟨rfl, hb⟩
  have H3 := Lib.hid (And.intro (H2.out.1.below hb) (And.intro (H2.out.2.1.below hb) (below_more H2.out.2.2 hb (Nat.le_refl _))))
  clear hb CS H2
  have CM := Lib.hid (fun w => fun (h : Pts w a n ps) => mask_no w a n c ps x y h (by omega) HN.out)
  go_wp2_with fail
  refine (CM.out w3 H3.out.1).mono ?_
  rintro e w4 ⟨rfl, hb⟩
  have X := Lib.hid (below_more H3.out.2.2 hb (Nat.le_refl _))
  clear hb CM H3
  go_wp2_with fail
  go_ret
  exact ⟨rfl, X.out⟩

set_option maxRecDepth 100000 in
set_option maxHeartbeats 3200000 in
theorem mask_no4 (w : World) (a : Option Addr) (n c : Nat) (ps : List Pt) (x y : Int) (h : Pts w a n ps) (hn : ¬ 1000 < n) (hs : shape ps = true) (k0 : 0 ≤ x) (k1 : 0 ≤ y) (k2 : ¬ x ≤ 32768) : Calls Try.prog 4 #[.slice a n c, .int .i64 x, .int .i64 y] w (Yes w) := by
  have CA := Lib.hid (anchor_any w)
  have HP := Lib.hid h
  have u : decide ((1000 : Int) < (n : Int)) = false := by simp; omega
  have HS := Lib.hid hs
  have HN := Lib.hid (show (shape ps && areaB x y) = false by
    rw [hs, Bool.true_and]
    unfold areaB sideB
    simp
    omega)
  have u0 : decide (0 ≤ x) = true := by simpa using k0
  have u1 : decide (0 ≤ y) = true := by simpa using k1
  have u2 : decide (x ≤ 32768) = false := by simpa using k2
  clear h hs k0 k1 k2
  go_enter Try.func4, Try.ntmps4
  go_wp2_with fail
  refine CA.out.mono ?_
  rintro e w1 ⟨rfl, hb⟩
  have H1 := Lib.hid (And.intro (HP.out.below hb) hb)
  clear hb CA HP
  have CP := Lib.hid (plain_any w1 a n c ps H1.out.1 (by omega))
  have hl := H1.out.1.1
  go_wp2_with fail
  refine CP.out.mono ?_
  rintro e w2 ⟨aa, c3, rfl, hp, _, _, _, hb⟩
  rw [hl] at hp ⊢
  have H2 := Lib.hid (And.intro (H1.out.1.below hb) (And.intro hp (below_more H1.out.2 hb (Nat.le_refl _))))
  clear hb CP H1 hp hl
  have CS := Lib.hid (docShape_any w2 aa n c3 ps H2.out.2.1 (by omega))
  rw [HS.out] at CS
  go_wp2_with fail
  refine CS.out.mono ?_
  rintro e w3 ⟨rfl, hb⟩
  have H3 := Lib.hid (And.intro (H2.out.1.below hb) (And.intro (H2.out.2.1.below hb) (below_more H2.out.2.2 hb (Nat.le_refl _))))
  clear hb CS H2
  have CM := Lib.hid (fun w => fun (h : Pts w a n ps) => mask_no w a n c ps x y h (by omega) HN.out)
  go_wp2_with fail
  refine (CM.out w3 H3.out.1).mono ?_
  rintro e w4 ⟨rfl, hb⟩
  have X := Lib.hid (below_more H3.out.2.2 hb (Nat.le_refl _))
  clear hb CM H3
  go_wp2_with fail
  go_ret
  exact ⟨rfl, X.out⟩

set_option maxRecDepth 100000 in
set_option maxHeartbeats 3200000 in
theorem mask_no5 (w : World) (a : Option Addr) (n c : Nat) (ps : List Pt) (x y : Int) (h : Pts w a n ps) (hn : ¬ 1000 < n) (hs : shape ps = true) (k0 : 0 ≤ x) (k1 : 0 ≤ y) (k2 : x ≤ 32768) (k3 : ¬ y ≤ 32768) : Calls Try.prog 4 #[.slice a n c, .int .i64 x, .int .i64 y] w (Yes w) := by
  have CA := Lib.hid (anchor_any w)
  have HP := Lib.hid h
  have u : decide ((1000 : Int) < (n : Int)) = false := by simp; omega
  have HS := Lib.hid hs
  have HN := Lib.hid (show (shape ps && areaB x y) = false by
    rw [hs, Bool.true_and]
    unfold areaB sideB
    simp
    omega)
  have u0 : decide (0 ≤ x) = true := by simpa using k0
  have u1 : decide (0 ≤ y) = true := by simpa using k1
  have u2 : decide (x ≤ 32768) = true := by simpa using k2
  have u3 : decide (y ≤ 32768) = false := by simpa using k3
  clear h hs k0 k1 k2 k3
  go_enter Try.func4, Try.ntmps4
  go_wp2_with fail
  refine CA.out.mono ?_
  rintro e w1 ⟨rfl, hb⟩
  have H1 := Lib.hid (And.intro (HP.out.below hb) hb)
  clear hb CA HP
  have CP := Lib.hid (plain_any w1 a n c ps H1.out.1 (by omega))
  have hl := H1.out.1.1
  go_wp2_with fail
  refine CP.out.mono ?_
  rintro e w2 ⟨aa, c3, rfl, hp, _, _, _, hb⟩
  rw [hl] at hp ⊢
  have H2 := Lib.hid (And.intro (H1.out.1.below hb) (And.intro hp (below_more H1.out.2 hb (Nat.le_refl _))))
  clear hb CP H1 hp hl
  have CS := Lib.hid (docShape_any w2 aa n c3 ps H2.out.2.1 (by omega))
  rw [HS.out] at CS
  go_wp2_with fail
  refine CS.out.mono ?_
  rintro e w3 ⟨rfl, hb⟩
  have H3 := Lib.hid (And.intro (H2.out.1.below hb) (And.intro (H2.out.2.1.below hb) (below_more H2.out.2.2 hb (Nat.le_refl _))))
  clear hb CS H2
  have CM := Lib.hid (fun w => fun (h : Pts w a n ps) => mask_no w a n c ps x y h (by omega) HN.out)
  go_wp2_with fail
  refine (CM.out w3 H3.out.1).mono ?_
  rintro e w4 ⟨rfl, hb⟩
  have X := Lib.hid (below_more H3.out.2.2 hb (Nat.le_refl _))
  clear hb CM H3
  go_wp2_with fail
  go_ret
  exact ⟨rfl, X.out⟩

set_option maxRecDepth 100000 in
set_option maxHeartbeats 6400000 in
theorem mask_no6 (w : World) (a : Option Addr) (n c : Nat) (ps : List Pt) (W H : Nat) (h : Pts w a n ps) (hn : ¬ 1000 < n) (hs : shape ps = true) (hW : W ≤ 32768) (hH : H ≤ 32768) (hb : ¬ W * H ≤ 4194304) : Calls Try.prog 4 #[.slice a n c, .int .i64 (W : Int), .int .i64 (H : Int)] w (Yes w) := by
  have CA := Lib.hid (anchor_any w)
  have HP := Lib.hid h
  have u : decide ((1000 : Int) < (n : Int)) = false := by simp; omega
  have HS := Lib.hid hs
  have u0 : decide (0 ≤ (W : Int)) = true := by simp
  have u1 : decide (0 ≤ (H : Int)) = true := by simp
  have u2 : decide ((W : Int) ≤ 32768) = true := by simp; omega
  have u3 : decide ((H : Int) ≤ 32768) = true := by simp; omega
  have e0 : (W : Int) * (H : Int) = ((W * H : Nat) : Int) := (Int.natCast_mul W H).symm
  have hp0 : W * H ≤ 32768 * 32768 := Nat.mul_le_mul hW hH
  obtain ⟨M, hM⟩ : ∃ M, M = W * H := ⟨_, rfl⟩
  rw [← hM] at e0 hp0
  have lo : -9223372036854775808 ≤ (M : Int) := by omega
  have hi : (M : Int) ≤ 9223372036854775807 := by omega
  have u4 : decide ((M : Int) ≤ 4194304) = false := by simp; omega
  have HN := Lib.hid (show (shape ps && areaB (W : Int) (H : Int)) = false by
    rw [hs, Bool.true_and]
    unfold areaB
    rw [e0, u4, Bool.and_false])
  have m0 : wrap64 ((W : Int) * (H : Int)) = (M : Int) := by rw [e0]; exact w64 _ lo hi
  clear h hs hW hH e0 hp0 hM lo hi hb
  go_enter Try.func4, Try.ntmps4
  go_wp2_with fail
  refine CA.out.mono ?_
  rintro e w1 ⟨rfl, hb⟩
  have H1 := Lib.hid (And.intro (HP.out.below hb) hb)
  clear hb CA HP
  have CP := Lib.hid (plain_any w1 a n c ps H1.out.1 (by omega))
  have hl := H1.out.1.1
  go_wp2_with fail
  refine CP.out.mono ?_
  rintro e w2 ⟨aa, c3, rfl, hp, _, _, _, hb⟩
  rw [hl] at hp ⊢
  have H2 := Lib.hid (And.intro (H1.out.1.below hb) (And.intro hp (below_more H1.out.2 hb (Nat.le_refl _))))
  clear hb CP H1 hp hl
  have CS := Lib.hid (docShape_any w2 aa n c3 ps H2.out.2.1 (by omega))
  rw [HS.out] at CS
  go_wp2_with fail
  refine CS.out.mono ?_
  rintro e w3 ⟨rfl, hb⟩
  have H3 := Lib.hid (And.intro (H2.out.1.below hb) (And.intro (H2.out.2.1.below hb) (below_more H2.out.2.2 hb (Nat.le_refl _))))
  clear hb CS H2
  have CM := Lib.hid (fun w => fun (h : Pts w a n ps) => mask_no w a n c ps (W : Int) (H : Int) h (by omega) HN.out)
  go_wp2_with fail
  refine (CM.out w3 H3.out.1).mono ?_
  rintro e w4 ⟨rfl, hb⟩
  have X := Lib.hid (below_more H3.out.2.2 hb (Nat.le_refl _))
  clear hb CM H3
  go_wp2_with fail
  go_ret
  exact ⟨rfl, X.out⟩

set_option maxRecDepth 100000 in
set_option maxHeartbeats 6400000 in
theorem mask_big (w : World) (a : Option Addr) (n c : Nat) (ps : List Pt) (W H : Nat) (h : Pts w a n ps) (hn : ¬ 1000 < n) (hs : shape ps = true) (hW : W ≤ 32768) (hH : H ≤ 32768) (hb : W * H ≤ 4194304) (hg : 1500 < W * H) : Calls Try.prog 4 #[.slice a n c, .int .i64 (W : Int), .int .i64 (H : Int)] w (Yes w) := by
  have CA := Lib.hid (anchor_any w)
  have HP := Lib.hid h
  have u : decide ((1000 : Int) < (n : Int)) = false := by simp; omega
  have HS := Lib.hid hs
  have u0 : decide (0 ≤ (W : Int)) = true := by simp
  have u1 : decide (0 ≤ (H : Int)) = true := by simp
  have u2 : decide ((W : Int) ≤ 32768) = true := by simp; omega
  have u3 : decide ((H : Int) ≤ 32768) = true := by simp; omega
  have e0 : (W : Int) * (H : Int) = ((W * H : Nat) : Int) := (Int.natCast_mul W H).symm
  have hp0 : W * H ≤ 32768 * 32768 := Nat.mul_le_mul hW hH
  obtain ⟨M, hM⟩ : ∃ M, M = W * H := ⟨_, rfl⟩
  rw [← hM] at e0 hp0
  have lo : -9223372036854775808 ≤ (M : Int) := by omega
  have hi : (M : Int) ≤ 9223372036854775807 := by omega
  have u4 : decide ((M : Int) ≤ 4194304) = true := by simp; omega
  have u5 : decide ((1500 : Int) < (M : Int)) = true := by simp; omega
  have m0 : wrap64 ((W : Int) * (H : Int)) = (M : Int) := by rw [e0]; exact w64 _ lo hi
  clear h hs hW hH e0 hp0 hM lo hi hb hg
  go_enter Try.func4, Try.ntmps4
  go_wp2_with fail
  refine CA.out.mono ?_
  rintro e w1 ⟨rfl, hb⟩
  have H1 := Lib.hid (And.intro (HP.out.below hb) hb)
  clear hb CA HP
  have CP := Lib.hid (plain_any w1 a n c ps H1.out.1 (by omega))
  have hl := H1.out.1.1
  go_wp2_with fail
  refine CP.out.mono ?_
  rintro e w2 ⟨aa, c3, rfl, hp, _, _, _, hb⟩
  rw [hl] at hp ⊢
  have H2 := Lib.hid (And.intro (H1.out.1.below hb) (And.intro hp (below_more H1.out.2 hb (Nat.le_refl _))))
  clear hb CP H1 hp hl
  have CS := Lib.hid (docShape_any w2 aa n c3 ps H2.out.2.1 (by omega))
  rw [HS.out] at CS
  go_wp2_with fail
  refine CS.out.mono ?_
  rintro e w3 ⟨rfl, hb⟩
  have H3 := Lib.hid (And.intro (H2.out.1.below hb) (And.intro (H2.out.2.1.below hb) (below_more H2.out.2.2 hb (Nat.le_refl _))))
  clear hb CS H2
  have X := Lib.hid H3.out.2.2
  clear H3
  go_wp2_with fail
  go_ret
  exact ⟨rfl, X.out⟩

set_option maxRecDepth 100000 in
set_option maxHeartbeats 6400000 in
theorem mask_right (w : World) (a : Option Addr) (n c : Nat) (ps : List Pt) (W H : Nat) (h : Pts w a n ps) (hn : ¬ 1000 < n) (hs : shape ps = true) (hW : W ≤ 32768) (hH : H ≤ 32768) (hg : ¬ 1500 < W * H) : Calls Try.prog 4 #[.slice a n c, .int .i64 (W : Int), .int .i64 (H : Int)] w (Yes w) := by
  have CA := Lib.hid (anchor_any w)
  have HP := Lib.hid h
  have u : decide ((1000 : Int) < (n : Int)) = false := by simp; omega
  have HS := Lib.hid hs
  have u0 : decide (0 ≤ (W : Int)) = true := by simp
  have u1 : decide (0 ≤ (H : Int)) = true := by simp
  have u2 : decide ((W : Int) ≤ 32768) = true := by simp; omega
  have u3 : decide ((H : Int) ≤ 32768) = true := by simp; omega
  have e0 : (W : Int) * (H : Int) = ((W * H : Nat) : Int) := (Int.natCast_mul W H).symm
  have hp0 : W * H ≤ 32768 * 32768 := Nat.mul_le_mul hW hH
  obtain ⟨M, hM⟩ : ∃ M, M = W * H := ⟨_, rfl⟩
  rw [← hM] at e0 hp0
  have lo : -9223372036854775808 ≤ (M : Int) := by omega
  have hi : (M : Int) ≤ 9223372036854775807 := by omega
  have u4 : decide ((M : Int) ≤ 4194304) = true := by simp; omega
  have u5 : decide ((1500 : Int) < (M : Int)) = false := by simp; omega
  have HA := Lib.hid (show areaB (W : Int) (H : Int) = true by
    unfold areaB sideB
    rw [e0, u0, u1, u2, u3, u4]; rfl)
  have m0 : wrap64 ((W : Int) * (H : Int)) = (M : Int) := by rw [e0]; exact w64 _ lo hi
  have HE := Lib.hid (And.intro hM (And.intro hW hH))
  have hM5 : M ≤ 1500 := by omega
  clear h hs hW hH e0 hp0 hM lo hi hg
  go_enter Try.func4, Try.ntmps4
  go_wp2_with fail
  refine CA.out.mono ?_
  rintro e w1 ⟨rfl, hb⟩
  have H1 := Lib.hid (And.intro (HP.out.below hb) hb)
  clear hb CA HP
  have CP := Lib.hid (plain_any w1 a n c ps H1.out.1 (by omega))
  have hl := H1.out.1.1
  go_wp2_with fail
  refine CP.out.mono ?_
  rintro e w2 ⟨aa, c3, rfl, hp, _, _, _, hb⟩
  rw [hl] at hp ⊢
  have H2 := Lib.hid (And.intro (H1.out.1.below hb) (And.intro hp (below_more H1.out.2 hb (Nat.le_refl _))))
  clear hb CP H1 hp hl
  have CS := Lib.hid (docShape_any w2 aa n c3 ps H2.out.2.1 (by omega))
  rw [HS.out] at CS
  go_wp2_with fail
  refine CS.out.mono ?_
  rintro e w3 ⟨rfl, hb⟩
  have H3 := Lib.hid (And.intro (H2.out.1.below hb) (And.intro (H2.out.2.1.below hb) (below_more H2.out.2.2 hb (Nat.le_refl _))))
  clear hb CS H2
  have CM := Lib.hid (fun w => fun (h : Pts w a n ps) => mask_yes w a n c ps W H h HS.out HA.out)
  go_wp2_with fail
  refine (CM.out w3 H3.out.1).mono ?_
  rintro e w4 ⟨G, rfl, hm, hG, hb⟩
  have HM := Lib.hid (And.intro hm (And.intro (H3.out.2.1.below hb) (below_more H3.out.2.2 hb (Nat.le_refl _))))
  rw [← HE.out.1] at HM ⊢
  clear hb hm hG CM H3
  go_wp2_with fail
  simp only [m0]
  clear m0
  go_loopw [80] (fun cnt wr => ∃ i : Nat, i ≤ M ∧ cnt = .int .i64 i ∧ Below w4.heap.size w4 wr) (fun cnt _ => M - (intOf cnt).toNat)
  case atStart => exact ⟨0, Nat.zero_le _, rfl, Below.refl _ _⟩
  case round =>
    obtain ⟨i, hi, rfl, hb⟩ := hrel
    by_cases hlt : i < M
    · have hW0 : 0 < W := by
        rcases Nat.eq_zero_or_pos W with q | q
        · have := HE.out.1; rw [q, Nat.zero_mul] at this; omega
        · exact q
      have hx : i % W < W := Nat.mod_lt _ hW0
      have hy : i / W < H := by
        rw [Nat.div_lt_iff_lt_mul hW0, Nat.mul_comm, ← HE.out.1]; exact hlt
      have hW1 := HE.out.2.1
      have hH1 := HE.out.2.2
      have hx0 : (0 : Int) ≤ ((i % W : Nat) : Int) ∧ ((i % W : Nat) : Int) ≤ 32768 := by omega
      have hy0 : (0 : Int) ≤ ((i / W : Nat) : Int) ∧ ((i / W : Nat) : Int) ≤ 32768 := ⟨Int.natCast_nonneg _, Int.ofNat_le.2 (by exact Nat.le_trans (Nat.le_of_lt hy) hH1)⟩
      obtain ⟨X, hX⟩ : ∃ X, X = i % W := ⟨_, rfl⟩
      obtain ⟨Y, hY⟩ : ∃ Y, Y = i / W := ⟨_, rfl⟩
      rw [← hX] at hx0 hx
      rw [← hY] at hy0 hy
      have nq : near ⟨(X : Int), (Y : Int)⟩ = true := near_iff.2 ⟨by simp only; omega, by simp only; omega⟩
      obtain ⟨l1, l2, l3⟩ := shape_len HS.out
      have c0 := ((HM.out.1.below hb).cell (j := i) hlt).1
      have CD := Lib.hid (docWithin_any wr.drew aa n c3 ps ⟨(X : Int), (Y : Int)⟩ ((HM.out.2.1.below hb).below ⟨rfl, rfl, rfl, Nat.le_refl _, fun _ _ => rfl⟩) (by have := HM.out.2.1.1; omega) l3 nq)
      rw [inside_same] at CD
      have em : maskF ps W i = insideB ps ⟨(X : Int), (Y : Int)⟩ := by unfold maskF; rw [← hX, ← hY]
      rw [em] at c0
      have k3 : IntKind.i64.wrap (Y : Int) = (Y : Int) := wrap_i64 _ (by omega) (by omega)
      have k6 : wrap64 (Y : Int) = (Y : Int) := w64 _ (by omega) (by omega)
      have k1 : ((i : Int).tmod (W : Int)) = (X : Int) := by rw [hX]; rfl
      have k2 : ((i : Int).tdiv (W : Int)) = (Y : Int) := by rw [hY]; rfl
      have k4 : ((W : Int) == 0) = false := by simp; omega
      have k5 : ¬ (W : Int) = 0 := by omega
      have k7 : ¬ W = 0 := by omega
      have HB := Lib.hid hb
      clear hb nq l1 l2 l3 em hx hy hW1 hH1 hx0 hy0 hX hY
      generalize insideB ps ⟨(X : Int), (Y : Int)⟩ = b at *
      go_wp2_with fail
      go_still_tail 7, (by kernel_rfl)
      repeat still_step
      try refine wpStill_nil ?_
      change wpList _ _ _ _ _ wr.drew
      go_wp2_with fail
      refine CD.out.mono ?_
      rintro e w5 ⟨rfl, hb⟩
      have HB2 := Lib.hid (below_more HB.out (below_more (show Below wr.heap.size wr wr.drew from ⟨rfl, rfl, rfl, Nat.le_refl _, fun _ _ => rfl⟩) hb (Nat.le_refl _)) (Nat.le_refl _))
      clear hb CD HB c0
      cases b with
      | false =>
        go_wp2_with fail
        go_roundw
        case rel => exact ⟨i + 1, hlt, by go_num, HB2.out⟩
        case measure => simp [intOf]; omega
      | true =>
        go_wp2_with fail
        go_roundw
        case rel => exact ⟨i + 1, hlt, by go_num, HB2.out⟩
        case measure => simp [intOf]; omega
    · obtain rfl : i = M := by omega
      have X := Lib.hid (below_more HM.out.2.2 hb (Nat.le_refl _))
      clear hb
      go_wp2_with fail
      go_ret
      exact ⟨rfl, X.out⟩

set_option maxHeartbeats 3200000 in
theorem mask_law (w : World) (a : Option Addr) (n c : Nat) (ps : List Pt) (x y : Int) (hp : Pts w a n ps ∧ n ≤ c) (hx : -9223372036854775808 ≤ x ∧ x ≤ 9223372036854775807) (hy : -9223372036854775808 ≤ y ∧ y ≤ 9223372036854775807) : Calls Try.prog 4 #[.slice a n c, .int .i64 x, .int .i64 y] w (Yes w) := by
  have h := hp.1
  clear hp
  by_cases hn : 1000 < n
  · have CA := Lib.hid (anchor_any w)
    clear h hx hy
    have u : decide ((1000 : Int) < (n : Int)) = true := by simp; omega
    go_enter Try.func4, Try.ntmps4
    go_wp2_with fail
    refine CA.out.mono ?_
    rintro e w1 ⟨rfl, hb⟩
    have X := Lib.hid hb
    clear hb
    go_wp2_with fail
    go_ret
    exact ⟨rfl, X.out⟩
  · cases hs : shape ps with
    | false => exact mask_no1 w a n c ps x y h hn hs
    | true =>
      by_cases k0 : 0 ≤ x
      · by_cases k1 : 0 ≤ y
        · by_cases k2 : x ≤ 32768
          · by_cases k3 : y ≤ 32768
            · obtain ⟨W, rfl⟩ := Int.eq_ofNat_of_zero_le k0
              obtain ⟨H, rfl⟩ := Int.eq_ofNat_of_zero_le k1
              by_cases k4 : W * H ≤ 4194304
              · by_cases k5 : 1500 < W * H
                · exact mask_big w a n c ps W H h hn hs (by omega) (by omega) k4 k5
                · exact mask_right w a n c ps W H h hn hs (by omega) (by omega) k5
              · exact mask_no6 w a n c ps W H h hn hs (by omega) (by omega) k4
            · exact mask_no5 w a n c ps x y h hn hs k0 k1 k2 k3
          · exact mask_no4 w a n c ps x y h hn hs k0 k1 k2
        · exact mask_no3 w a n c ps x y h hn hs k0 k1
      · exact mask_no2 w a n c ps x y h hn hs k0
end Go.Proofs.Ytboocllckolmgaa
