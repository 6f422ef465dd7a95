/- The contracts of Same and of the law's same, in the quiet form. -/
import Derived.Test.YthddjfaeacmlhaaDoorJF
namespace Go.Proofs.YthddjfaeacmlhaaDoor
open Go.RowKit Jr
set_option linter.unusedVariables false

theorem drewN_more {w w1 : World} {q : Nat} (h : w1 = w.drewN q) (p : Nat) : w1.drewN p = w.drewN (q + p) := by
  rw [h]; simp [World.drewN, Nat.add_assoc]
set_option maxHeartbeats 800000 in
theorem same_quiet (w : World) (a : Option Addr) (n c : Nat) (xs : List Nat) (b : Option Addr) (m d : Nat) (ys : List Nat) (hx : Arg w a n c xs) (hy : Arg w b m d ys) (hn2 : n ≤ 33554432) (hm2 : m ≤ 33554432) :
    Calls Tryd.prog 13 #[.slice a n c, .slice b m d] w fun en w' => en = .returned (.bool (decide (xs = ys))) ∧ ∃ q, w' = w.drewN q := by
  have HN := Lib.hid (And.intro hx.len hy.len)
  have HX := Lib.hid (And.intro hx hy)
  clear hx hy
  by_cases hnm : n = m
  · subst hnm
    go_enter Tryd.func13, Tryd.ntmps13
    go_wp2_with fail
    go_loopw [5] (fun iv wl => ∃ i : Nat, i ≤ n ∧ iv = .int .i64 i ∧ xs.take i = ys.take i ∧ ∃ q, wl = w.drewN q) (fun iv _ => n - (intOf iv).toNat)
    case atStart => exact ⟨0, Nat.zero_le _, rfl, rfl, 0, rfl⟩
    case round =>
      obtain ⟨i, hi, rfl, he, hk⟩ := hrel
      obtain ⟨q0, hq0⟩ := hk
      have HE := Lib.hid he
      have HK := Lib.hid (show Below w.heap.size w wr from by rw [hq0]; exact below_drewN (Below.refl _ _) _)
      have HQ := Lib.hid hq0
      clear he hq0
      by_cases hlt : i < n
      · obtain ⟨b0, o0, x, rfl, hx, _, hc0⟩ := (HX.out.1.below HK.out).1.at hlt
        obtain ⟨b1, o1, y, rfl, hy, _, hc1⟩ := (HX.out.2.below HK.out).1.at hlt
        have ST := Lib.hid (same_take hx hy HE.out)
        clear hx hy
        by_cases hxy : x = y
        · have S1 := Lib.hid (ST.out.1 hxy)
          clear ST
          subst hxy
          go_wp2_with fail
          go_quiet (fail)
          go_wp2_with fail
          go_roundw
          case rel => exact ⟨i + 1, hlt, by go_num, S1.out, _, drewN_more HQ.out _⟩
          case measure => simp [intOf] <;> omega
        · have hne : ((x : Int) != (y : Int)) = true := by simp; omega
          have hne2 : ((x : Int) == (y : Int)) = false := by simp; omega
          have hne3 : decide ((x : Int) = (y : Int)) = false := by simp; omega
          go_wp2_with fail
          go_quiet (fail)
          go_wp2_with fail
          go_ret
          exact ⟨ret_bool (decide_eq_false (ST.out.2 hxy)).symm, _, drewN_more HQ.out _⟩
      · obtain rfl : i = n := by omega
        go_wp2_with fail
        go_ret
        have h1 := HE.out
        rw [List.take_of_length_le (by rw [HN.out.1]; exact Nat.le_refl _), List.take_of_length_le (by rw [HN.out.2]; exact Nat.le_refl _)] at h1
        exact ⟨ret_bool (decide_eq_true h1).symm, _, HQ.out⟩
  · have h1 : ((n : Int) != (m : Int)) = true := by simp; omega
    have h2 : ((n : Int) == (m : Int)) = false := by simp; omega
    have h3 : decide ((n : Int) = (m : Int)) = false := by simp; omega
    have h4 : xs ≠ ys := by intro e; subst e; have := HN.out; omega
    have H4 := Lib.hid h4
    clear h4
    go_enter Tryd.func13, Tryd.ntmps13
    go_wp2_with fail
    go_ret
    exact ⟨ret_bool (decide_eq_false H4.out).symm, 0, rfl⟩

set_option maxHeartbeats 1600000 in
theorem sameL_quiet (w : World) (P Q : Nat → Prop) (a : Option Addr) (n c : Nat) (ls : List (List Nat)) (b : Option Addr) (m d : Nat) (ms : List (List Nat)) (hx : Tx w P a n c ls) (hy : Tx w Q b m d ms) (hn2 : n ≤ 33554432) (hm2 : m ≤ 33554432)
    (hl : ∀ p ∈ ls, p.length ≤ 33554432) (hm : ∀ p ∈ ms, p.length ≤ 33554432) :
    Calls Tryd.prog 12 #[.slice a n c, .slice b m d] w fun en w' => en = .returned (.bool (decide (ls = ms))) ∧ ∃ q, w' = w.drewN q := by
  have HN := Lib.hid (And.intro hx.len hy.len)
  have HX := Lib.hid (And.intro hx hy)
  have HM := Lib.hid (And.intro hl hm)
  clear hx hy hl hm
  by_cases hnm : n = m
  · subst hnm
    go_enter Tryd.func12, Tryd.ntmps12
    go_wp2_with fail
    go_loopw [14] (fun iv wl => ∃ i : Nat, i ≤ n ∧ iv = .int .i64 i ∧ ls.take i = ms.take i ∧ ∃ q, wl = w.drewN q) (fun iv _ => n - (intOf iv).toNat)
    case atStart => exact ⟨0, Nat.zero_le _, rfl, rfl, 0, rfl⟩
    case round =>
      obtain ⟨i, hi, rfl, he, hk⟩ := hrel
      obtain ⟨q0, hq0⟩ := hk
      have HE := Lib.hid he
      have HK := Lib.hid (show Below w.heap.size w wr from by rw [hq0]; exact below_drewN (Below.refl _ _) _)
      have HQ := Lib.hid hq0
      clear he hq0
      by_cases hlt : i < n
      · obtain ⟨b0, o0, x, a1, m1, c1, rfl, hx, hc0, hA1, _⟩ := (HX.out.1.below HK.out).at hlt
        obtain ⟨b1, o1, y, a2, m2, c2, rfl, hy, hc1, hA2, _⟩ := (HX.out.2.below HK.out).at hlt
        have ST := Lib.hid (same_take hx hy HE.out)
        have C := Lib.hid (same_quiet _ _ _ _ _ _ _ _ _ hA1 hA2 (by have := HM.out.1 x (List.mem_of_getElem? hx); rw [hA1.len] at this; exact this) (by have := HM.out.2 y (List.mem_of_getElem? hy); rw [hA2.len] at this; exact this))
        clear hx hy hA1 hA2
        by_cases hxy : x = y
        · have S1 := Lib.hid (ST.out.1 hxy)
          clear ST
          subst hxy
          rw [decide_eq_true rfl] at C
          go_wp2_with fail
          refine C.out.mono ?_
          rintro e w2 ⟨rfl, q2, hq2⟩
          have HQ2 := Lib.hid (hq2.trans (drewN_more HQ.out q2))
          clear hq2
          go_wp2_with fail
          go_roundw
          case rel => exact ⟨i + 1, hlt, by go_num, S1.out, _, HQ2.out⟩
          case measure => simp [intOf] <;> omega
        · rw [decide_eq_false hxy] at C
          have H4 := Lib.hid (ST.out.2 hxy)
          clear hxy
          go_wp2_with fail
          refine C.out.mono ?_
          rintro e w2 ⟨rfl, q2, hq2⟩
          have HQ2 := Lib.hid (hq2.trans (drewN_more HQ.out q2))
          clear hq2
          go_wp2_with fail
          go_ret
          exact ⟨ret_bool (decide_eq_false H4.out).symm, _, HQ2.out⟩
      · obtain rfl : i = n := by omega
        go_wp2_with fail
        go_ret
        have h1 := HE.out
        rw [List.take_of_length_le (by rw [HN.out.1]; exact Nat.le_refl _), List.take_of_length_le (by rw [HN.out.2]; exact Nat.le_refl _)] at h1
        exact ⟨ret_bool (decide_eq_true h1).symm, _, HQ.out⟩
  · have h1 : ((n : Int) != (m : Int)) = true := by simp; omega
    have h2 : ((n : Int) == (m : Int)) = false := by simp; omega
    have h3 : decide ((n : Int) = (m : Int)) = false := by simp; omega
    have h4 : ls ≠ ms := by intro e; subst e; have := HN.out; omega
    have H4 := Lib.hid h4
    clear h4
    go_enter Tryd.func12, Tryd.ntmps12
    go_wp2_with fail
    go_ret
    exact ⟨ret_bool (decide_eq_false H4.out).symm, 0, rfl⟩

end Go.Proofs.YthddjfaeacmlhaaDoor
