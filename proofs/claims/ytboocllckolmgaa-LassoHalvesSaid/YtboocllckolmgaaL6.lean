/- The walk of LassoHalves. -/
import Derived.Test.YtboocllckolmgaaZ
namespace Go.Proofs.Ytboocllckolmgaa
open Go.RowKit
set_option linter.unusedVariables false

set_option maxRecDepth 100000 in
set_option maxHeartbeats 1600000 in
theorem halves_out0 (w : World) (a : Option Addr) (n c : Nat) (ps : List Pt) (k x y : Int)  (k0 : n < 4) : Calls Try.prog 8 #[.slice a n c, .int .i64 k, .int .i64 x, .int .i64 y] w (Yes w) := by
  have CA := Lib.hid (anchor_any w)
  have u0 : decide ((n : Int) < 4) = true := by simp; omega
  go_enter Try.func8, Try.ntmps8
  go_wp2_with fail
  refine CA.out.mono ?_
  rintro e w1 ⟨rfl, hb⟩
  have X := Lib.hid hb
  clear hb CA
  go_wp2_with fail
  go_ret
  exact ⟨rfl, X.out⟩

set_option maxRecDepth 100000 in
set_option maxHeartbeats 1600000 in
theorem halves_out1 (w : World) (a : Option Addr) (n c : Nat) (ps : List Pt) (k x y : Int) (k0 : ¬ n < 4) (k1 : 256 < n) : Calls Try.prog 8 #[.slice a n c, .int .i64 k, .int .i64 x, .int .i64 y] w (Yes w) := by
  have CA := Lib.hid (anchor_any w)
  have u0 : decide ((n : Int) < 4) = false := by simp; omega
  have u1 : decide ((256 : Int) < (n : Int)) = true := by simp; omega
  go_enter Try.func8, Try.ntmps8
  go_wp2_with fail
  refine CA.out.mono ?_
  rintro e w1 ⟨rfl, hb⟩
  have X := Lib.hid hb
  clear hb CA
  go_wp2_with fail
  go_ret
  exact ⟨rfl, X.out⟩

set_option maxRecDepth 100000 in
set_option maxHeartbeats 1600000 in
theorem halves_out2 (w : World) (a : Option Addr) (n c : Nat) (ps : List Pt) (k x y : Int) (k0 : ¬ n < 4) (k1 : ¬ 256 < n) (k2 : k < 2) : Calls Try.prog 8 #[.slice a n c, .int .i64 k, .int .i64 x, .int .i64 y] w (Yes w) := by
  have CA := Lib.hid (anchor_any w)
  have u0 : decide ((n : Int) < 4) = false := by simp; omega
  have u1 : decide ((256 : Int) < (n : Int)) = false := by simp; omega
  have u2 : decide (k < 2) = true := by simp; omega
  go_enter Try.func8, Try.ntmps8
  go_wp2_with fail
  refine CA.out.mono ?_
  rintro e w1 ⟨rfl, hb⟩
  have X := Lib.hid hb
  clear hb CA
  go_wp2_with fail
  go_ret
  exact ⟨rfl, X.out⟩

set_option maxRecDepth 100000 in
set_option maxHeartbeats 1600000 in
theorem halves_out3 (w : World) (a : Option Addr) (n c : Nat) (ps : List Pt) (k x y : Int) (m : Nat) (hm : m = n - 2) (k0 : ¬ n < 4) (k1 : ¬ 256 < n) (k2 : ¬ k < 2) (k3 : (m : Int) < k) : Calls Try.prog 8 #[.slice a n c, .int .i64 k, .int .i64 x, .int .i64 y] w (Yes w) := by
  have CA := Lib.hid (anchor_any w)
  have u0 : decide ((n : Int) < 4) = false := by simp; omega
  have u1 : decide ((256 : Int) < (n : Int)) = false := by simp; omega
  have u2 : decide (k < 2) = false := by simp; omega
  have u3 : decide ((m : Int) < k) = true := by simp; omega
  have j1 : wrap64 ((n : Int) - 2) = (m : Int) := by
    have e : (n : Int) - 2 = (m : Int) := by omega
    rw [e]; exact w64 _ (by omega) (by omega)
  go_enter Try.func8, Try.ntmps8
  go_wp2_with fail
  refine CA.out.mono ?_
  rintro e w1 ⟨rfl, hb⟩
  have X := Lib.hid hb
  clear hb CA
  go_wp2_with fail
  go_ret
  exact ⟨rfl, X.out⟩

set_option maxRecDepth 100000 in
set_option maxHeartbeats 3200000 in
theorem halves_no (w : World) (a : Option Addr) (n c : Nat) (ps : List Pt) (k : Nat) (x y : Int) (h : Pts w a n ps) (h4 : 4 ≤ n) (h5 : n ≤ 256) (h6 : 2 ≤ k) (h7 : k ≤ n - 2) (hq : Fits ⟨x, y⟩) (hs : (shape ps && near ⟨x, y⟩) = false) : Calls Try.prog 8 #[.slice a n c, .int .i64 (k : Int), .int .i64 x, .int .i64 y] w (Yes w) := by
  have CA := Lib.hid (anchor_any w)
  have HP := Lib.hid h
  have u0 : decide ((n : Int) < 4) = false := by simp; omega
  have u1 : decide ((256 : Int) < (n : Int)) = false := by simp; omega
  have u2 : decide ((k : Int) < 2) = false := by simp; omega
  obtain ⟨m, hm⟩ : ∃ m, m = n - 2 := ⟨_, rfl⟩
  have u3 : decide ((m : Int) < (k : Int)) = false := by simp; omega
  have n0 : ¬ n < 4 := by omega
  have n1 : ¬ 256 < n := by omega
  have n2 : ¬ k < 2 := by omega
  have n3 : ¬ m < k := by omega
  have u4 : decide ((n : Int) - 2 < (k : Int)) = false := by simp; omega
  have n4 : ¬ ((n : Int) - 2 < (k : Int)) := by omega
  have e1 : (n : Int) - 2 = (m : Int) := by omega
  have b1 : -9223372036854775808 ≤ (m : Int) ∧ (m : Int) ≤ 9223372036854775807 := by omega
  have j1 : wrap64 ((n : Int) - 2) = (m : Int) := by rw [e1]; exact w64 _ b1.1 b1.2
  have HN := Lib.hid (And.intro hq hs)
  clear h e1 b1 hm hq hs
  go_enter Try.func8, Try.ntmps8
  go_wp2_with fail
  refine CA.out.mono ?_
  rintro e w1 ⟨rfl, hb⟩
  have H1 := Lib.hid (And.intro (HP.out.below hb) hb)
  clear hb CA HP
  have CW := Lib.hid (within_no w1 a n c ps ⟨x, y⟩ H1.out.1 (by omega) HN.out.1 HN.out.2)
  clear h4 h5 h6 h7
  go_wp2_with fail
  refine CW.out.mono ?_
  rintro e w2 ⟨rfl, hb⟩
  have X := Lib.hid (below_more H1.out.2 hb (Nat.le_refl _))
  clear hb CW H1
  go_wp2_with fail
  go_ret
  exact ⟨rfl, X.out⟩

set_option maxRecDepth 100000 in
set_option maxHeartbeats 6400000 in
theorem halves_yes (w : World) (b off n c : Nat) (ps : List Pt) (k : Nat) (x y : Int) (h : Pts w (some ⟨b, off, none⟩) n ps) (hc : n ≤ c) (h4 : 4 ≤ n) (h5 : n ≤ 256) (h6 : 2 ≤ k) (h7 : k ≤ n - 2) (hs : shape ps = true) (hq : near ⟨x, y⟩ = true) : Calls Try.prog 8 #[.slice (some ⟨b, off, none⟩) n c, .int .i64 (k : Int), .int .i64 x, .int .i64 y] w (Yes w) := by
  have CA := Lib.hid (anchor_any w)
  have HP := Lib.hid h
  have u0 : decide ((n : Int) < 4) = false := by simp; omega
  have u1 : decide ((256 : Int) < (n : Int)) = false := by simp; omega
  have u2 : decide ((k : Int) < 2) = false := by simp; omega
  obtain ⟨m, hm⟩ : ∃ m, m = n - 2 := ⟨_, rfl⟩
  have u3 : decide ((m : Int) < (k : Int)) = false := by simp; omega
  have n0 : ¬ n < 4 := by omega
  have n1 : ¬ 256 < n := by omega
  have n2 : ¬ k < 2 := by omega
  have n3 : ¬ m < k := by omega
  have u4 : decide ((n : Int) - 2 < (k : Int)) = false := by simp; omega
  have n4 : ¬ ((n : Int) - 2 < (k : Int)) := by omega
  have e1 : (n : Int) - 2 = (m : Int) := by omega
  have b1 : -9223372036854775808 ≤ (m : Int) ∧ (m : Int) ≤ 9223372036854775807 := by omega
  have j1 : wrap64 ((n : Int) - 2) = (m : Int) := by rw [e1]; exact w64 _ b1.1 b1.2
  have hl := h.1
  have sA := halfA_shape hs h6 (show k + 1 ≤ ps.length by omega)
  have sC := halfC_shape hs (show 1 ≤ k by omega) (show k + 2 ≤ ps.length by omega)
  have IH := inside_halves (ps := ps) (k := k) (by omega) (by omega) ⟨x, y⟩
  rw [hl] at sC
  have HS := Lib.hid (And.intro hs (And.intro hq (And.intro sA sC)))
  obtain ⟨A, hA⟩ : ∃ A, A = insideB (halfA k ps) ⟨x, y⟩ := ⟨_, rfl⟩
  obtain ⟨C, hC⟩ : ∃ C, C = insideB (halfC k ps) ⟨x, y⟩ := ⟨_, rfl⟩
  rw [← hA, ← hC] at IH
  have HI := Lib.hid (And.intro IH (And.intro hA hC))
  have hkc : k + 1 ≤ c := by omega
  have hkn : k ≤ n := by omega
  have hk1n : k + 1 ≤ n := by omega
  have hnk : ¬ c = k := by omega
  have hft := h.2.1
  have HFT := Lib.hid hft
  clear h e1 b1 hm hq hs hl sA sC IH hA hC hft
  go_enter Try.func8, Try.ntmps8
  go_wp2_with fail
  refine CA.out.mono ?_
  rintro e w1 ⟨rfl, hb⟩
  have H1 := Lib.hid (And.intro (HP.out.below hb) hb)
  clear hb CA HP
  have CW := Lib.hid (within_yes w1 (some ⟨b, off, none⟩) n c ps ⟨x, y⟩ H1.out.1 HS.out.2.1 HS.out.1)
  rw [HI.out.1] at CW
  go_wp2_with fail
  refine CW.out.mono ?_
  rintro e w2 ⟨rfl, hb⟩
  have H2 := Lib.hid (And.intro (H1.out.1.below hb) (below_more H1.out.2 hb (Nat.le_refl _)))
  clear hb CW H1
  have OW := Lib.hid (own_none w2)
  have P2 := Lib.hid (show Pts (w2.alloc (.cells #[] 37)) (some ⟨b, off, none⟩) (k + 1) (ps.take (k + 1)) from (H2.out.1.below ((Below.refl _ _).alloc (Nat.le_refl _) _)).take hk1n)
  go_wp2_with (at_builtin; go_must (refine wpList_append_pts 22 37 Try.underlying22 info37 rfl (.tmp 48) (.tmp 52) rfl w2.heap.size 0 (.slice (some ⟨w2.heap.size, 0, none⟩) 0 0) [] (ps.take (k + 1)) rfl OW.out b off (k + 1) c rfl P2.out (fun p hp => by cases hp) (by omega) (by omega) (by simp) ?_))
  intro aa cap w3 hp3 hb3
  have hb23 : Below w2.heap.size w2 w3 := ((Below.refl _ w2).alloc (Nat.le_refl _) _).trans hb3
  have H3 := Lib.hid (And.intro (H2.out.1.below hb23) (below_more H2.out.2 hb23 (Nat.le_refl _)))
  have eA : ps.take (k + 1) = halfA k ps := rfl
  rw [eA] at hp3
  have CA1 := Lib.hid (within_yes w3 aa (k + 1) cap (halfA k ps) ⟨x, y⟩ hp3 HS.out.2.1 HS.out.2.2.1.1)
  rw [← HI.out.2.1] at CA1
  clear hp3 hb3 hb23 eA H2 OW P2
  go_wp2_with fail
  refine CA1.out.mono ?_
  rintro e w4 ⟨rfl, hb⟩
  have H4 := Lib.hid (And.intro (H3.out.1.below hb) (below_more H3.out.2 hb (Nat.le_refl _)))
  clear hb CA1 H3
  obtain ⟨b', off', p, e', hp0, hf0, c0, c1⟩ := H4.out.1.at (i := 0) (by omega)
  cases e'
  rw [Nat.zero_mul, Nat.add_zero] at c0 c1
  have OW := Lib.hid (show ((w4.alloc (.cells #[.int .i64 p.X, .int .i64 p.Y] 37)).drew).ownsRow w4.heap.size 37 2 (.slice (some ⟨w4.heap.size, 0, none⟩) 1 1) 1 (pcells [p]) from own_single w4 p)
  have e1 : ps.take 1 = [p] := by rw [take_more hp0]; rfl
  have bA : Below w4.heap.size w4 ((w4.alloc (.cells #[.int .i64 p.X, .int .i64 p.Y] 37)).drew) := by
    have t : Below w4.heap.size w4 (w4.alloc (.cells #[.int .i64 p.X, .int .i64 p.Y] 37)) := (Below.refl _ _).alloc (Nat.le_refl _) _
    exact ⟨t.os, t.tape, t.output, t.size, t.block⟩
  have PD := Lib.hid (show Pts ((w4.alloc (.cells #[.int .i64 p.X, .int .i64 p.Y] 37)).drew) (some ⟨b, off + k * 2, none⟩) (n - k) (ps.drop k) from (H4.out.1.drop hkn).below bA)
  have BB := Lib.hid (fun (w5 : World) (hb : Below w4.heap.size ((w4.alloc (.cells #[.int .i64 p.X, .int .i64 p.Y] 37)).drew) w5) => bA.trans hb)
  have hbs : w4.heap.size ≤ ((w4.alloc (.cells #[.int .i64 p.X, .int .i64 p.Y] 37)).drew).heap.size := bA.size
  clear bA
  have hn0 : (0 : Int) < (n : Int) := by omega
  have hn0n : 0 < n := by omega
  have CC := Lib.hid (fun (W : World) (aa : Option Addr) (cap : Nat) (hp : Pts W aa (1 + (n - k)) ([p] ++ ps.drop k)) => show Calls Try.prog 12 #[.slice aa (1 + (n - k)) cap, .int .i64 x, .int .i64 y] W (SaysBE C 0 W) from by
    rw [HI.out.2.2]
    rw [← e1] at hp
    exact within_yes W aa (1 + (n - k)) cap (halfC k ps) ⟨x, y⟩ hp HS.out.2.1 HS.out.2.2.2.1)
  have HF0 := Lib.hid (show ∀ q ∈ [p], Fits q from fun q hq => by rw [List.mem_singleton] at hq; rw [hq]; exact hf0)
  have hsz : n - k ≤ 16777216 := by omega
  clear hf0 hp0 e1
  go_wp2_with fail
  go_region_law (first
    | (refine step_append_pts 22 37 Try.underlying22 info37 (by rfl) (.tmp 63) (.tmp 66) (by rfl) w4.heap.size 1 (.slice (some ⟨w4.heap.size, 0, none⟩) 1 1) [p] (ps.drop k) (by rfl) OW.out b (off + k * 2) (n - k) (c - k) (by rfl) PD.out HF0.out hsz (by decide) hbs ?_; intro aa5 cap5 w5 hp5 hb5; have B5 := BB.out w5 hb5)
    | (go_simp; refine (CC.out w5 aa5 cap5 hp5).mono ?_; rintro e w6 ⟨rfl, hb6⟩))
  all_goals
    have X := Lib.hid (below_more (below_more H4.out.2 B5 (Nat.le_refl _)) hb6 (Nat.le_refl _))
    clear hp5 hb5 B5 hb6 OW PD BB CC HF0 H4 HI HS HFT c0 c1
    go_wp2_with fail
    go_ret
    refine ⟨?_, X.out⟩
    cases A <;> cases C <;> rfl

theorem halves_law (w : World) (a : Option Addr) (n c : Nat) (ps : List Pt) (k x y : Int) (hp : Pts w a n ps ∧ n ≤ c) (hk : -9223372036854775808 ≤ k ∧ k ≤ 9223372036854775807) (hx : -9223372036854775808 ≤ x ∧ x ≤ 9223372036854775807) (hy : -9223372036854775808 ≤ y ∧ y ≤ 9223372036854775807) : Calls Try.prog 8 #[.slice a n c, .int .i64 k, .int .i64 x, .int .i64 y] w (Yes w) := by
  by_cases k0 : n < 4
  · exact halves_out0 w a n c ps k x y k0
  by_cases k1 : 256 < n
  · exact halves_out1 w a n c ps k x y k0 k1
  by_cases k2 : k < 2
  · exact halves_out2 w a n c ps k x y k0 k1 k2
  by_cases k3 : ((n - 2 : Nat) : Int) < k
  · exact halves_out3 w a n c ps k x y (n - 2) rfl k0 k1 k2 k3
  obtain ⟨k', rfl⟩ := Int.eq_ofNat_of_zero_le (show 0 ≤ k by omega)
  cases hs : (shape ps && near ⟨x, y⟩) with
  | false => exact halves_no w a n c ps k' x y hp.1 (by omega) (by omega) (by omega) (by omega) ⟨hx, hy⟩ hs
  | true =>
    rw [Bool.and_eq_true] at hs
    obtain ⟨b, off, e, _⟩ := hp.1.2.2 (by omega)
    subst e
    exact halves_yes w b off n c ps k' x y hp.1 hp.2 (by omega) (by omega) (by omega) (by omega) hs.1 hs.2
end Go.Proofs.Ytboocllckolmgaa
