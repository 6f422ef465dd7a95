/- Mask, of a shape and sizes that are right. -/
import Derived.Test.YtboocllckolmgaaMC
namespace Go.Proofs.Ytboocllckolmgaa
open Go.RowKit
set_option linter.unusedVariables false

theorem done_start {ps : List Pt} {W N : Nat} : ∀ j, j < N → (fun _ => false) j = doneF ps W 0 j := by
  intro j _
  unfold doneF
  rw [if_neg (by omega)]
theorem done_end {ps : List Pt} {W H : Nat} : ∀ j, j < W * H → doneF ps W H j = maskF ps W j := by
  intro j hj
  unfold doneF
  rw [Nat.mul_comm] at hj
  rw [if_pos hj]
theorem done_behind {ps : List Pt} {W i : Nat} : ∀ j, j < W → doneF ps W i (i * W + j) = false := by
  intro j _
  unfold doneF
  rw [if_neg (by omega)]

set_option maxRecDepth 100000 in
set_option maxHeartbeats 3200000 in
theorem mask_yes (w : World) (a : Option Addr) (n c : Nat) (ps : List Pt) (W H : Nat) (h : Pts w a n ps) (hs : shape ps = true) (hA : areaB (W : Int) (H : Int) = true) :
    Calls Try.prog 17 #[.slice a n c, .int .i64 (W : Int), .int .i64 (H : Int)] w (MaskSays w ps W H) := by
  obtain ⟨l1, l2, l3⟩ := shape_len hs
  have hl := h.1
  have hn1 : 1 ≤ n := by omega
  have hn2 : n ≤ 256 := by omega
  have kA := hA
  unfold areaB at kA
  rw [Bool.and_eq_true, Bool.and_eq_true, decide_eq_true_eq] at kA
  have kW := side_iff.1 kA.1.1
  have kH := side_iff.1 kA.1.2
  have hW : W ≤ 32768 := by omega
  have hH : H ≤ 32768 := by omega
  have e0 : (W : Int) * (H : Int) = ((W * H : Nat) : Int) := (Int.natCast_mul W H).symm
  obtain ⟨N, hNN⟩ : ∃ N, N = W * H := ⟨_, rfl⟩
  rw [← hNN] at e0
  have hN : N ≤ 4194304 := by omega
  have j1 : wrap64 ((W : Int) * (H : Int)) = (N : Int) := by rw [e0]; exact w64 _ (by omega) (by omega)
  have hmk := run_make_bytes N hN
  have C := Lib.hid (shape_any w a n c ps h (by omega))
  rw [hs] at C
  have CA := Lib.hid (fun w => isArea_any w (W : Int) (H : Int))
  rw [hA] at CA
  have HP := Lib.hid h
  have HN := Lib.hid (And.intro l3 (And.intro hl hNN))
  clear h hs l1 l2 l3 hl hA kA kW kH e0 hNN
  go_enter Try.func17, Try.ntmps17
  go_wp2_with fail
  refine C.out.mono ?_
  rintro e w1 ⟨rfl, hb⟩
  have H1 := Lib.hid (And.intro (HP.out.below hb) hb)
  clear hb C HP
  go_wp2_with fail
  refine (CA.out _).mono ?_
  rintro e w2 ⟨rfl, rfl⟩
  have CS := Lib.hid (sides_any w2 a n c ps H1.out.1 hn1 hn2)
  go_wp2_with fail
  refine CS.out.mono ?_
  rintro e w3 ⟨g, he, hg, hrow, hb⟩
  rw [HN.out.2.1] at he hrow
  subst he
  have hgl := hrow.lt
  have bA : Below w3.heap.size w3 (w3.alloc (.cells (madeCells #[.int .u8 0] N) 5)) := (Below.refl _ _).alloc (Nat.le_refl _) _
  have HR := Lib.hid (And.intro (hrow.below bA) hgl)
  have HB := Lib.hid (And.intro (below_more (below_more H1.out.2 hb (Nat.le_refl _)) bA (Nat.le_refl _)) (show w.heap.size ≤ w3.heap.size from (below_more H1.out.2 hb (Nat.le_refl _)).size))
  have HM := Lib.hid (mask_new w3 N)
  clear hb CS hrow H1 CA hgl hg bA
  go_wp2_with fail
  generalize w3.alloc (.cells (madeCells #[.int .u8 0] N) 5) = w4 at *
  clear hmk
  obtain ⟨G, hG⟩ : ∃ G, G = w3.heap.size := ⟨_, rfl⟩
  rw [← hG] at HM HR HB
  simp only [← hG, j1]
  clear hG j1
  go_loopw [27] (fun cnt wr => ∃ i : Nat, i ≤ H ∧ cnt = .int .i64 i ∧ MaskB wr G N (doneF ps W i) ∧ Row2 wr g n n 57 ((sidesL ps).map sdv) ∧ Below w.heap.size w wr) (fun cnt _ => H - (intOf cnt).toNat)
  case atStart => exact ⟨0, Nat.zero_le _, rfl, HM.out.congr (done_start (N := N)), HR.out.1, HB.out.1⟩
  case round =>
    clear HM
    obtain ⟨i, hi, rfl, hm, hrow, hb⟩ := hrel
    by_cases hlt : i < H
    · have hO : i * W + W ≤ N := by
        rw [HN.out.2.2, Nat.mul_comm W H, ← Nat.succ_mul]
        exact Nat.mul_le_mul_right _ hlt
      have hne : g ≠ G := by have := HR.out.2; omega
      have CL := Lib.hid (fun cap => layRow_any wr G (i * W) W N cap g n (sidesL ps) (i : Int) (doneF ps W i) hm hO done_behind hrow hne (by unfold sidesL; rw [chainL_length, HN.out.2.1]) hn2 hW (fun s hs => sides_near HN.out.1 (by rw [HN.out.2.1]; omega) hs) (near_iff.2 ⟨by simp only; omega, by simp only; omega⟩))
      have HRW := Lib.hid (And.intro hrow (And.intro hb hne))
      obtain ⟨O, hOO⟩ : ∃ O, O = i * W := ⟨_, rfl⟩
      obtain ⟨T, hT⟩ : ∃ T, T = O + W := ⟨_, rfl⟩
      have b1 : O ≤ T := by omega
      have b2 : T ≤ N := by omega
      have b3 : (O : Int) ≤ (T : Int) := by omega
      have b4 : (T : Int) ≤ (N : Int) := by omega
      have tw : T - O = W := by omega
      have z0 : N - O = 0 → O = 0 := by
        intro q
        have hW0 : W = 0 := by omega
        rw [hOO, hW0, Nat.mul_zero]
      have lo1 : -9223372036854775808 ≤ (O : Int) := by omega
      have hi1 : (O : Int) ≤ 9223372036854775807 := by omega
      have lo3 : -9223372036854775808 ≤ (T : Int) := by omega
      have hi3 : (T : Int) ≤ 9223372036854775807 := by omega
      have x1 : (i : Int) * (W : Int) = (O : Int) := by rw [hOO, ← Int.natCast_mul]
      have x3 : ((i : Int) + 1) * (W : Int) = (T : Int) := by rw [Int.add_mul, x1]; omega
      have m1 : wrap64 ((i : Int) * (W : Int)) = (O : Int) := by rw [x1]; exact w64 _ lo1 hi1
      have m3 : wrap64 (((i : Int) + 1) * (W : Int)) = (T : Int) := by rw [x3]; exact w64 _ lo3 hi3
      clear x1 x3
      clear lo1 hi1 lo3 hi3
      rw [← hOO] at CL
      have za : (if N = O then (some ⟨G, 0, none⟩ : Option Addr) else some ⟨G, O, none⟩) = some ⟨G, O, none⟩ := by
        split
        · rw [z0 (by omega)]
        · rfl
      clear z0
      have HD := Lib.hid (fun N => done_more (ps := ps) (W := W) (i := i) (N := N))
      rw [← hOO] at HD
      clear hm hrow hb hO hne hi hOO hT
      go_wp2_with fail
      · refine (CL.out _).mono ?_
        rintro e w5 ⟨rfl, hm2, hbut⟩
        have Y := Lib.hid (And.intro (hm2.congr (HD.out N)) (And.intro (hbut.row2 HRW.out.1 HRW.out.2.2) (hbut.below HRW.out.2.1 HB.out.2 (Nat.le_refl _))))
        clear hm2 hbut CL HRW
        go_wp2_with fail
        go_roundw
        case rel => exact ⟨i + 1, hlt, by go_num, Y.out.1, Y.out.2.1, Y.out.2.2⟩
        case measure => simp [intOf]; omega
    · obtain rfl : i = H := by omega
      have X := Lib.hid (show MaskSays w ps W i (.returned (.tuple #[.slice (some ⟨G, 0, none⟩) N N, .int .i64 0])) wr by
        refine ⟨G, by rw [HN.out.2.2], ?_, HB.out.2, hb⟩
        have k := hm
        rw [HN.out.2.2] at k
        exact k.congr done_end)
      clear hm hrow hb
      go_wp2_with fail
      go_ret2
      exact X.out
end Go.Proofs.Ytboocllckolmgaa
