/- One step of a play: Cut that is done, or brings the reel down. -/
import Derived.Test.YtccfjpjhkaicgaaV
namespace Go.Proofs.Ytccfjpjhkaicgaa
open Go.RowKit

set_option maxRecDepth 100000 in
set_option maxHeartbeats 1600000 in
theorem step_cut_ok (w W : World) (R T : Nat) (m : M) (h : Both w R m T m W) (k : Nat) (K : Int) (a : Option Addr) (n c : Nat) (hd : m.down = false) (hr : k ≤ m.xs.length) :
    Calls Try.prog 10 #[.pointer (some ⟨R, 0, none⟩), .pointer (some ⟨T, 0, none⟩), .agg #[.int .i64 3, .int .i64 k, .int .i64 K, .slice a n c]] W (Stepped w R T) := by
  obtain ⟨E, ct, l, hb, hT, hR, hl, hxs, hfx⟩ := h.cells
  obtain ⟨h0, h1, h2, h3, h4, h5⟩ := twin_cells hb
  have hl0 : m.xs.length ≤ 16777216 := by have := h.ok.len; have := h.ok.cap1; omega
  rw [hd] at h5
  have C := Lib.hid (fun q : Nat => goes_b ((h.alloc #[.int .i64 3, .int .i64 k, .int .i64 K, .slice a n c] 31).drewN q) hd)
  have HD := Lib.hid hd
  clear h1 h2 h3 h4 hb hl hxs hfx hd h
  have t1 : decide ((k : Int) < 0) = false := by simp
  have t2 : decide (m.xs.length < k) = false := by simp; omega
  go_enter Try.func10, Try.ntmps10
  go_wp2_with fail
  go_quiet (fail)
  go_wp2_with fail
  refine (C.out _).mono ?_
  rintro e W1 ⟨rfl, h1⟩
  by_cases c0 : m.left = 0
  · have t : decide (m.left ≠ 0) = false := by simp; exact c0
    have hp := h1.pin
    have p1 : W1.cell? ⟨W.heap.size, 1, none⟩ = some (.int .i64 k) := by simp [World.cell?, hp]
    have C2 := cut_b h1 k
    rw [show m.cut k = (11, m.spend.2) by
      unfold M.cut; rw [if_neg (by simp [HD.out]), if_neg (by omega), if_pos c0]; unfold M.spend; rw [if_pos c0]] at C2
    have C2 := Lib.hid C2
    clear h1 c0 hp
    go_wp2_with fail
    refine C2.out.mono ?_
    rintro e W2 ⟨rfl, h2⟩
    have H := Lib.hid (Stepped.of h2.both)
    clear h2
    go_wp2_with fail
    go_ret
    exact H.out
  · have t : decide (m.left ≠ 0) = true := by simp; exact c0
    have hp := h1.pin
    have p1 : W1.cell? ⟨W.heap.size, 1, none⟩ = some (.int .i64 k) := by simp [World.cell?, hp]
    obtain ⟨E1, c1, l1, hb1, hT1, hR1, hl1, hxs1, hfx1⟩ := h1.both.cells
    obtain ⟨g0, g1, g2, g3, g4, g5⟩ := twin_cells hb1
    have f0 := reel_free hb1 0
    have f2 := reel_free hb1 2
    have hkx : k ≤ m.spend.2.xs.length := by rw [spend_xs]; exact hr
    have hkc : k ≤ c1 := by have := hfx1.1; omega
    have hnone : headOf E1 = none → k = 0 ∧ c1 = 0 ∧ m.spend.2.xs.length = 0 := by
      intro e
      have h3 := hfx1.2.2 e
      have h4 := hfx1.1
      omega
    have HN := Lib.hid hnone
    have e1 : m.cut k = (0, { m.spend.2 with xs := m.spend.2.xs.take k, safe := min m.spend.2.safe k }) := by
      unfold M.cut
      rw [if_neg (by simp [HD.out]), if_neg (by omega), if_neg c0, spend_xs, spend_safe]
      simp
    have C2 := Lib.hid (fun (s : Int) (hs : s = min m.spend.2.safe k) => (cut_b ((h1.cut_set hkx g0 s hs).drew) k))
    rw [e1] at C2
    clear h1 c0 hp hb1 hl1 hxs1 hfx1 hnone e1 g1 g3 g4 g5
    go_wp2_with fail
    cases E1 with
    | none =>
      obtain ⟨rfl, rfl, hz⟩ := HN.out rfl
      rw [hz] at g0
      clear hz
      simp only [headOf, Option.map_none] at g0 C2
      clear HN
      rcases (show m.spend.2.safe ≤ 0 ∨ 0 < m.spend.2.safe by omega) with hm | hm
      all_goals
        go_region
        go_wp2_with fail
        refine (C2.out _ (by omega)).mono ?_
        rintro e W2 ⟨rfl, h2⟩
        have H := Lib.hid (Stepped.of h2.both)
        clear h2
        go_wp2_with fail
        go_ret
        exact H.out
    | some g =>
      simp only [headOf, Option.map_some] at g0 C2
      clear HN
      rcases (show m.spend.2.safe ≤ (k : Int) ∨ (k : Int) < m.spend.2.safe by omega) with hm | hm
      all_goals
        go_region
        go_wp2_with fail
        refine (C2.out _ (by omega)).mono ?_
        rintro e W2 ⟨rfl, h2⟩
        have H := Lib.hid (Stepped.of h2.both)
        clear h2
        go_wp2_with fail
        go_ret
        exact H.out
end Go.Proofs.Ytccfjpjhkaicgaa
