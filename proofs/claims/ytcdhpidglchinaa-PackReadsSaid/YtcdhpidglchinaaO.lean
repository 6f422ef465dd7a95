/- Same: two rows of bytes compared. -/
import Derived.Test.YtcdhpidglchinaaN
namespace Go.Proofs.Ytcdhpidglchinaa
open Go.RowKit Go.Lib Pk
set_option linter.unusedSimpArgs false
set_option linter.unusedVariables false

theorem same_take {xs ys : List Nat} (hl : xs.length = ys.length) {i x y : Nat} (hx : xs[i]? = some x) (hy : ys[i]? = some y) (h : xs.take i = ys.take i) : (x = y → xs.take (i + 1) = ys.take (i + 1)) ∧ (x ≠ y → xs ≠ ys) := by
  refine ⟨fun e => ?_, fun e he => ?_⟩
  · rw [List.take_add_one, List.take_add_one, hx, hy, h, e]
  · subst he
    rw [hx] at hy
    exact e (Option.some.inj hy)
theorem ret_bool {a b : Bool} (h : a = b) : Ending.returned (.bool a) = .returned (.bool b) := by rw [h]
set_option maxHeartbeats 800000 in
theorem Same_any (w : World) (g h : Hd) (xs ys : List Nat) (hx : Cells 1 w g (bys xs)) (hy : Cells 1 w h (bys ys)) (hl : xs.length ≤ 1000000) (hl2 : ys.length ≤ 1000000) :
    Calls Try.prog 10 #[.slice g.a g.n g.c, .slice h.a h.n h.c] w fun en w' => en = .returned (.bool (decide (xs = ys))) ∧ Keeps none' w w' := by
  have hn : xs.length = g.n := by have := hx.len; rw [bys_length] at this; omega
  have hm : ys.length = h.n := by have := hy.len; rw [bys_length] at this; omega
  have HX := Lib.hid (And.intro hx hy)
  obtain ⟨a, n, c⟩ := g
  obtain ⟨b, m, d⟩ := h
  simp only at hn hm
  have hn2 : n ≤ 1000000 := by omega
  have hm2 : m ≤ 1000000 := by omega
  have HN := Lib.hid (And.intro hn hm)
  clear hx hy hn hm hl hl2
  simp only
  by_cases hnm : n = m
  · subst hnm
    go_enter Try.func10, Try.ntmps10
    go_wp2_with fail
    go_loopw [5] (fun iv wl => ∃ i : Nat, i ≤ n ∧ iv = .int .i64 i ∧ xs.take i = ys.take i ∧ Keeps none' w wl) (fun iv _ => n - (intOf iv).toNat)
    case atStart => exact ⟨0, Nat.zero_le _, rfl, rfl, Keeps.refl _ _⟩
    case round =>
      obtain ⟨i, hi, rfl, he, hk⟩ := hrel
      have HE := Lib.hid he
      have HK := Lib.hid hk
      clear he hk
      by_cases hlt : i < n
      · obtain ⟨x, hx⟩ : ∃ x, xs[i]? = some x := ⟨_, List.getElem?_eq_getElem (by have := HN.out.1; omega)⟩
        obtain ⟨y, hy⟩ : ∃ y, ys[i]? = some y := ⟨_, List.getElem?_eq_getElem (by have := HN.out.2; omega)⟩
        obtain ⟨b0, o0, e0, _, hc0⟩ := (HX.out.1.later HK.out).at (bys_at hx)
        obtain ⟨b1, o1, e1, _, hc1⟩ := (HX.out.2.later HK.out).at (bys_at hy)
        simp only at e0 e1
        subst e0 e1
        have ST := Lib.hid (same_take (by rw [HN.out.1, HN.out.2]) hx hy HE.out)
        clear hx hy
        by_cases hxy : x = y
        · have S1 := Lib.hid (ST.out.1 hxy)
          clear ST
          subst hxy
          go_wp2_with fail
          go_quiet (fail)
          go_wp2_with fail
          go_roundw
          case rel => exact ⟨i + 1, hlt, by go_num, S1.out, HK.out.drewN _⟩
          case measure => simp [intOf] <;> omega
        · have hne : ((x : Int) != (y : Int)) = true := by simp; omega
          have hne2 : ((x : Int) == (y : Int)) = false := by simp; omega
          have hne3 : decide ((x : Int) = (y : Int)) = false := by simp; omega
          go_wp2_with fail
          go_quiet (fail)
          go_wp2_with fail
          go_ret
          exact ⟨ret_bool (decide_eq_false (ST.out.2 hxy)).symm, HK.out.drewN _⟩
      · obtain rfl : i = n := by omega
        go_wp2_with fail
        go_ret
        have h1 := HE.out
        rw [List.take_of_length_le (by rw [HN.out.1]; exact Nat.le_refl _), List.take_of_length_le (by rw [HN.out.2]; exact Nat.le_refl _)] at h1
        exact ⟨ret_bool (decide_eq_true h1).symm, HK.out⟩
  · have h1 : ((n : Int) != (m : Int)) = true := by simp; omega
    have h2 : ((n : Int) == (m : Int)) = false := by simp; omega
    have h3 : decide ((n : Int) = (m : Int)) = false := by simp; omega
    have h4 : xs ≠ ys := by intro e; subst e; have := HN.out; omega
    have H4 := Lib.hid h4
    clear h4
    go_enter Try.func10, Try.ntmps10
    go_wp2_with fail
    go_ret
    exact ⟨ret_bool (decide_eq_false H4.out).symm, Keeps.refl _ _⟩
end Go.Proofs.Ytcdhpidglchinaa
