/- One step of a play: kinds that are none, Sync and Arm. -/
import Derived.Test.YtccfjpjhkaicgaaS
namespace Go.Proofs.Ytccfjpjhkaicgaa
open Go.RowKit

set_option maxRecDepth 100000 in
set_option maxHeartbeats 800000 in
theorem step_none (w W : World) (R T : Nat) (m : M) (h : Both w R m T m W) (kind N K : Int) (a : Option Addr) (n c : Nat)
    (k1 : (kind == 1) = false) (k2 : (kind == 2) = false) (k3 : (kind == 3) = false) (k4 : (kind == 4) = false) (k5 : (kind == 5) = false) (k6 : (kind == 6) = false) :
    Calls Try.prog 10 #[.pointer (some ⟨R, 0, none⟩), .pointer (some ⟨T, 0, none⟩), .agg #[.int .i64 kind, .int .i64 N, .int .i64 K, .slice a n c]] W (Stepped w R T) := by
  have H := Lib.hid (fun c => Stepped.of (h.alloc c 31).both)
  clear h
  go_enter Try.func10, Try.ntmps10
  go_wp2
  go_ret
  exact H.out _

set_option maxRecDepth 100000 in
set_option maxHeartbeats 800000 in
theorem step_sync (w W : World) (R T : Nat) (m : M) (h : Both w R m T m W) (N K : Int) (a : Option Addr) (n c : Nat) :
    Calls Try.prog 10 #[.pointer (some ⟨R, 0, none⟩), .pointer (some ⟨T, 0, none⟩), .agg #[.int .i64 2, .int .i64 N, .int .i64 K, .slice a n c]] W (Stepped w R T) := by
  obtain ⟨E, ct, l, hb, hT, hR, hl, hxs, hfx⟩ := h.cells
  obtain ⟨h0, h1, h2, h3, h4, h5⟩ := twin_cells hb
  by_cases hd : m.down = true
  · rw [hd] at h5
    have C := sync_b (h.alloc #[.int .i64 2, .int .i64 N, .int .i64 K, .slice a n c] 31)
    rw [show m.sync = (11, m) by unfold M.sync; rw [if_pos hd]] at C
    have C := Lib.hid C
    clear h0 h1 h2 h3 h4 hb hl hxs hfx hd h
    go_enter Try.func10, Try.ntmps10
    go_wp2_with fail
    refine C.out.mono ?_
    rintro e W1 ⟨rfl, h1⟩
    have H := Lib.hid (Stepped.of h1.both)
    clear h1
    go_wp2_with fail
    go_ret
    exact H.out
  · have hd' : m.down = false := by simpa using hd
    rw [hd'] at h5
    have C := Lib.hid (goes_b (h.alloc #[.int .i64 2, .int .i64 N, .int .i64 K, .slice a n c] 31) hd')
    clear h0 h1 h2 h3 h4 hb hl hxs hfx h
    go_enter Try.func10, Try.ntmps10
    go_wp2_with fail
    refine C.out.mono ?_
    rintro e W1 ⟨rfl, h1⟩
    by_cases c0 : m.left = 0
    · have t : decide (m.left ≠ 0) = false := by simp; exact c0
      have C := sync_b h1
      rw [show m.sync = (11, m.spend.2) by unfold M.sync; rw [if_neg hd, if_pos c0]; unfold M.spend; rw [if_pos c0]] at C
      have C := Lib.hid C
      clear h1 c0 hd hd'
      go_wp2_with fail
      refine C.out.mono ?_
      rintro e W2 ⟨rfl, h2⟩
      have H := Lib.hid (Stepped.of h2.both)
      clear h2
      go_wp2_with fail
      go_ret
      exact H.out
    · have t : decide (m.left ≠ 0) = true := by simp; exact c0
      obtain ⟨E1, c1, l1, hb1, hT1, hR1, hl1, hxs1, hfx1⟩ := h1.both.cells
      obtain ⟨g0, g1, g2, g3, g4, g5⟩ := twin_cells hb1
      have f2 := reel_free hb1 2
      have ok := h1.both.ok
      have e1 : m.sync = (0, { m.spend.2 with safe := m.spend.2.xs.length }) := by unfold M.sync; rw [if_neg hd, if_neg c0, spend_xs]
      have hs := h1.safe_set (s := (m.spend.2.xs.length : Nat)) ⟨ok.cap0, ok.cap1, ok.len, by simp, by simp, ok.left0, ok.left1, ok.byte⟩
      have C := sync_b hs
      rw [e1] at C
      have C := Lib.hid C
      clear h1 c0 hd hd' g1 g3 g4 g5 hb1 hl1 hxs1 hfx1 ok e1 hs
      go_wp2_with fail
      refine C.out.mono ?_
      rintro e W2 ⟨rfl, h2⟩
      have H := Lib.hid (Stepped.of h2.both)
      clear h2
      go_wp2_with fail
      go_ret
      exact H.out

set_option maxRecDepth 100000 in
set_option maxHeartbeats 800000 in
theorem step_arm (w W : World) (R T : Nat) (m : M) (h : Both w R m T m W) (N K : Int) (hN : N ≤ 9223372036854775807) (a : Option Addr) (n c : Nat) :
    Calls Try.prog 10 #[.pointer (some ⟨R, 0, none⟩), .pointer (some ⟨T, 0, none⟩), .agg #[.int .i64 5, .int .i64 N, .int .i64 K, .slice a n c]] W (Stepped w R T) := by
  have hsz := h.size
  have C := Lib.hid (arm_b (h.alloc #[.int .i64 5, .int .i64 N, .int .i64 K, .slice a n c] 31) N hN)
  clear h
  go_enter Try.func10, Try.ntmps10
  go_wp2_with fail
  refine C.out.mono ?_
  rintro e W1 ⟨rfl, h1⟩
  obtain ⟨E1, c1, l1, hb1, hT1, hR1, hl1, hxs1, hfx1⟩ := h1.both.cells
  obtain ⟨g0, g1, g2, g3, g4, g5⟩ := twin_cells hb1
  have f3 := reel_free hb1 3
  have f4 := reel_free hb1 4
  have hp := h1.pin
  have p1 : W1.cell? ⟨W.heap.size, 1, none⟩ = some (.int .i64 N) := by simp [World.cell?, hp]
  have X := Lib.hid (Stepped.of (h1.arm_set (arm_ok h1.both.ok N hN)).drew.both)
  clear h1 hb1 hl1 hxs1 hfx1 hp
  go_wp2_with fail
  go_region
  go_wp2
  go_ret
  exact X.out
end Go.Proofs.Ytccfjpjhkaicgaa
