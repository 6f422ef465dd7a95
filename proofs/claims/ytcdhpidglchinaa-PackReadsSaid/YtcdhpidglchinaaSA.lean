/- same: two rows of whole numbers that are one. -/
import Derived.Test.YtcdhpidglchinaaC
import Derived.Test.YtcdhpidglchinaaO
namespace Go.Proofs.Ytcdhpidglchinaa
open Go.RowKit Go.Lib Pk
set_option linter.unusedSimpArgs false
set_option linter.unusedVariables false

set_option maxHeartbeats 800000 in
theorem same_yes (w : World) (g h : Hd) (xs : List Int) (hx : Cells 1 w g (ints xs)) (hy : Cells 1 w h (ints xs)) (hl : xs.length ≤ 1000000) :
    Calls Try.prog 22 #[.slice g.a g.n g.c, .slice h.a h.n h.c] w fun en w' => en = .returned (.bool true) ∧ w = w' := by
  have hn : xs.length = g.n := by have := hx.len; rw [ints_length] at this; omega
  have hm : xs.length = h.n := by have := hy.len; rw [ints_length] at this; omega
  have HX := Lib.hid (And.intro hx hy)
  obtain ⟨a, n, c⟩ := g
  obtain ⟨b, m, d⟩ := h
  simp only at hn hm
  obtain rfl : n = m := by omega
  have hn2 : n ≤ 1000000 := by omega
  have HN := Lib.hid hn
  clear hx hy hn hm hl
  simp only
  go_enter Try.func22, Try.ntmps22
  go_wp2_with fail
  go_loop [14] (fun iv => ∃ i : Nat, i ≤ n ∧ iv = .int .i64 i) (fun iv => n - (intOf iv).toNat)
  case atStart => exact ⟨0, Nat.zero_le _, rfl⟩
  case round =>
    obtain ⟨i, hi, rfl⟩ := hrel
    by_cases hlt : i < n
    · obtain ⟨x, hx⟩ : ∃ x, xs[i]? = some x := ⟨_, List.getElem?_eq_getElem (by have := HN.out; omega)⟩
      obtain ⟨b0, o0, e0, _, hc0⟩ := HX.out.1.at (ints_at hx)
      obtain ⟨b1, o1, e1, _, hc1⟩ := HX.out.2.at (ints_at hx)
      simp only at e0 e1
      subst e0 e1
      clear hx
      go_wp2_with fail
      go_round
      case rel => exact ⟨i + 1, hlt, by go_num⟩
      case measure => simp [intOf]; omega
    · go_wp2_with fail
      go_ret
      exact ⟨rfl, rfl⟩
end Go.Proofs.Ytcdhpidglchinaa
