/- One step of a play: Read. -/
import Derived.Test.YtccfjpjhkaicgaaV3
namespace Go.Proofs.Ytccfjpjhkaicgaa
open Go.RowKit

theorem read_b {w W : World} {R T : Nat} {m mt : M} (h : Both w R m T mt W) (hd : m.down = false) (at_ n : Nat) (hr : at_ + n ≤ m.xs.length) :
    Calls Try.prog 16 #[.pointer (some ⟨R, 0, none⟩), .int .i64 at_, .int .i64 n] W fun e W' => e = .returned (.tuple #[.slice (some ⟨W.heap.size, 0, none⟩) n n, .int .i64 0]) ∧
      BothP w R m T mt W.heap.size (.cells (((m.xs.drop at_).take n).map (Value.int .u8)).toArray 5 (0, 0)) W' ∧ Below W.heap.size W W' := by
  obtain ⟨D, E, h1, h2, h3, h4, h5, h6, h7⟩ := h
  refine (read_ok W _ R D m h1 at_ n hd hr).mono ?_
  rintro e W' ⟨he, hh, hb⟩
  have e1 := h1.lt
  have e2 := h2.lt
  exact ⟨he, ⟨D, E, h1.kept (hb.block _ h1.lt) (fun k e => hb.block _ (h1.data_lt e).2), h2.kept hb.size (hb.block _ h2.lt) (fun k e => hb.block _ (h2.own k e).2), h3, h4, h5, h6, h7.own (below_keeps hb) (fun _ h => h.elim),
    hh, by omega, by omega, fun e => by have := (h1.data_lt e).2; omega, fun e => by have := (h2.own _ e).2; omega⟩, hb⟩

/-- The pinned block written. -/
theorem BothP.written {w W W' : World} {R T O : Nat} {ob : Obj} {m mt : M} (h : BothP w R m T mt O ob W) (hk : Keeps (fun k => k = O) W W') (hO : w.heap.size ≤ O) : Both w R m T mt W' := by
  obtain ⟨D, E, h1, h2, h3, h4, h5, h6, h7, h8⟩ := h
  exact ⟨D, E, h1.keeps hk (fun e => h8.2.1 e.symm) (fun k ek e => h8.2.2.2.1 (by rw [ek, e])), h2.keeps hk (fun e => h8.2.2.1 e.symm) (fun k ek e => h8.2.2.2.2 (by rw [ek, e])), h3, h4, h5, h6, h7.own hk (fun i e => by rw [e]; exact hO)⟩

set_option maxRecDepth 100000 in
set_option maxHeartbeats 800000 in
theorem step_read_down (w W : World) (R T : Nat) (m : M) (h : Both w R m T m W) (N K : Int) (a : Option Addr) (n c : Nat) (hd : m.down = true) :
    Calls Try.prog 10 #[.pointer (some ⟨R, 0, none⟩), .pointer (some ⟨T, 0, none⟩), .agg #[.int .i64 4, .int .i64 N, .int .i64 K, .slice a n c]] W (Stepped w R T) := by
  obtain ⟨E, ct, l, hb, hT, hR, hl, hxs, hfx⟩ := h.cells
  obtain ⟨h0, h1, h2, h3, h4, h5⟩ := twin_cells hb
  rw [hd] at h5
  have ha := (h.alloc #[.int .i64 4, .int .i64 N, .int .i64 K, .slice a n c] 31).both
  have C := Lib.hid (read_down_st ha.st hd N K)
  have H := Lib.hid (Stepped.of ha)
  clear h0 h1 h2 h3 h4 hb hl hxs hfx hd h ha
  go_enter Try.func10, Try.ntmps10
  go_wp2_with fail
  refine C.out.mono ?_
  rintro e W1 ⟨rfl, rfl⟩
  go_wp2_with fail
  go_ret
  exact H.out

theorem read_range_st {w W : World} {R : Nat} {m : M} (h : St w R m W) (at_ n : Int) (hd : m.down = false) (ha0 : -9223372036854775808 ≤ at_) (ha1 : at_ ≤ 9223372036854775807) (hr : at_ < 0 ∨ n < 0 ∨ (m.xs.length : Int) - at_ < n) :
    Calls Try.prog 16 #[.pointer (some ⟨R, 0, none⟩), .int .i64 at_, .int .i64 n] W fun e w' => e = .returned (.tuple #[.slice none 0 0, .int .i64 12]) ∧ W = w' := by
  obtain ⟨D, h1, h2⟩ := h
  exact read_range W _ R D m h1 at_ n hd ha0 ha1 hr

set_option maxRecDepth 100000 in
set_option maxHeartbeats 1600000 in
theorem step_read_range (w W : World) (R T : Nat) (m : M) (h : Both w R m T m W) (N K : Int) (hN0 : -9223372036854775808 ≤ N) (hN1 : N ≤ 9223372036854775807) (a : Option Addr) (n c : Nat) (hd : m.down = false) (hr : N < 0 ∨ K < 0 ∨ (m.xs.length : Int) - N < K) :
    Calls Try.prog 10 #[.pointer (some ⟨R, 0, none⟩), .pointer (some ⟨T, 0, none⟩), .agg #[.int .i64 4, .int .i64 N, .int .i64 K, .slice a n c]] W (Stepped w R T) := by
  obtain ⟨E, ct, l, hb, hT, hR, hl, hxs, hfx⟩ := h.cells
  obtain ⟨h0, h1, h2, h3, h4, h5⟩ := twin_cells hb
  have hl0 : m.xs.length ≤ 16777216 := by have := h.ok.len; have := h.ok.cap1; omega
  rw [hd] at h5
  have ha := (h.alloc #[.int .i64 4, .int .i64 N, .int .i64 K, .slice a n c] 31)
  have C := Lib.hid (read_range_st ha.both.st N K hd hN0 hN1 hr)
  have H := Lib.hid (fun q => Stepped.of (ha.drewN q).both)
  clear h1 h2 h3 h4 hb hl hxs hfx hd h ha
  by_cases c0 : N < 0
  · have t0 : decide (N < 0) = true := by simpa using c0
    clear hr
    go_enter Try.func10, Try.ntmps10
    go_wp2_with fail
    refine C.out.mono ?_
    rintro e W1 ⟨rfl, rfl⟩
    go_wp2_with fail
    go_quiet (fail)
    go_wp2_with fail
    go_ret
    exact H.out _
  · have t0 : decide (N < 0) = false := by simpa using c0
    by_cases c1 : K < 0
    · have t1 : decide (K < 0) = true := by simpa using c1
      clear hr
      go_enter Try.func10, Try.ntmps10
      go_wp2_with fail
      refine C.out.mono ?_
      rintro e W1 ⟨rfl, rfl⟩
      go_wp2_with fail
      go_quiet (fail)
      go_wp2_with fail
      go_ret
      exact H.out _
    · have t1 : decide (K < 0) = false := by simpa using c1
      by_cases c2 : (m.xs.length : Int) < N
      · have t2 : decide ((m.xs.length : Int) < N) = true := by simpa using c2
        clear hr
        go_enter Try.func10, Try.ntmps10
        go_wp2_with fail
        refine C.out.mono ?_
        rintro e W1 ⟨rfl, rfl⟩
        go_wp2_with fail
        go_quiet (fail)
        go_wp2_with fail
        go_ret
        exact H.out _
      · have t2 : decide ((m.xs.length : Int) < N) = false := by simpa using c2
        have t3 : decide ((m.xs.length : Int) - N < K) = true := by simp; omega
        clear hr
        go_enter Try.func10, Try.ntmps10
        go_wp2_with fail
        refine C.out.mono ?_
        rintro e W1 ⟨rfl, rfl⟩
        go_wp2_with fail
        go_quiet (fail)
        go_wp2_with fail
        go_ret
        exact H.out _
end Go.Proofs.Ytccfjpjhkaicgaa
