/- One step of a play: Crash and Cut. -/
import Derived.Test.YtccfjpjhkaicgaaU
namespace Go.Proofs.Ytccfjpjhkaicgaa
open Go.RowKit

set_option maxRecDepth 100000 in
set_option maxHeartbeats 800000 in
theorem step_crash (w W : World) (R T : Nat) (m : M) (h : Both w R m T m W) (N K : Int) (hN0 : -9223372036854775808 ≤ N) (hN1 : N ≤ 9223372036854775807) (a : Option Addr) (n c : Nat) (ys : List Int) (ho : Opnd w a n c ys) :
    Calls Try.prog 10 #[.pointer (some ⟨R, 0, none⟩), .pointer (some ⟨T, 0, none⟩), .agg #[.int .i64 6, .int .i64 N, .int .i64 K, .slice a n c]] W (Stepped w R T) := by
  obtain ⟨hs, hf, hn⟩ := ho
  have ha := h.alloc #[.int .i64 6, .int .i64 N, .int .i64 K, .slice a n c] 31
  have C := Lib.hid (crash_b ha N (ha.both.src hs) hf (fun hp => hs.block hp))
  have S := Lib.hid hs
  have F := Lib.hid hf
  clear h ha hs hf
  go_enter Try.func10, Try.ntmps10
  go_wp2_with fail
  refine C.out.mono ?_
  rintro e W1 ⟨rfl, h1⟩
  have hp := h1.pin
  have p1 : W1.cell? ⟨W.heap.size, 1, none⟩ = some (.int .i64 N) := by simp [World.cell?, hp]
  have p3 : W1.cell? ⟨W.heap.size, 3, none⟩ = some (.slice a n c) := by simp [World.cell?, hp]
  have C2 := Lib.hid (twinCrash_b h1 N (h1.both.src S.out) F.out hN0 hN1)
  clear h1 hp
  go_wp2_with fail
  refine C2.out.mono ?_
  rintro e W2 ⟨rfl, h2⟩
  have X := Lib.hid (Stepped.of h2.both)
  clear h2
  go_wp2_with fail
  go_ret
  exact X.out

/-- The document's bytes cut. -/
theorem BothP.cut_set {w W : World} {R T O : Nat} {ob : Obj} {m mt : M} {k : Nat} {E : Option Nat} {cc : Nat} (h : BothP w R m T mt O ob W) (hk : k ≤ mt.xs.length)
    (hcell : W.cell? ⟨T, 0, none⟩ = some (.slice (headOf E) mt.xs.length cc)) (s : Int) (hs : s = min mt.safe k) :
    BothP w R m T { mt with xs := mt.xs.take k, safe := min mt.safe k } O ob ((W.setCell ⟨T, 0, none⟩ (.slice (headOf E) k k)).setCell ⟨T, 2, none⟩ (.int .i64 s)) := by
  subst hs
  obtain ⟨D, E', h1, h2, h3, h4, h5, h6, h7, h8⟩ := h
  have ok := h2.ok
  obtain ⟨c, l', hb, hl, hsrc, hf⟩ := h2.holds
  have e1 := (twin_cells hb).1
  rw [hcell] at e1
  simp only [Option.some.injEq, Value.slice.injEq] at e1
  have e2 : E = E' := by
    cases E <;> cases E' <;> simp [headOf] at e1 ⊢
    exact e1.1
  subst e2
  have hl0 : (mt.xs.take k).length = k := by rw [List.length_take]; omega
  have ne : ∀ ad, headOf E = some ad → ad.block ≠ T := by
    intro ad e
    cases E with
    | none => cases e
    | some k =>
      cases e
      intro e2
      exact h2.apart (by rw [show k = T from e2])
  have hkm : k ≤ maxLen := by have := hf.1; have := hf.2.1; omega
  refine BothP.twin h1 h2 h3 h4 h5 h6 h7 h8 (E' := E) ⟨⟨ok.cap0, ok.cap1, ?_, ?_, ?_, ok.left0, ok.left1, fun x hx => ok.byte x (List.mem_of_mem_take hx)⟩, h2.at_, ⟨k, l', ?_, hl, ?_, ?_⟩, fun k e => by simpa [World.setCell] using h2.own k e, h2.apart⟩ ((Keeps.one W T 0 _).trans (Keeps.one _ T 2 _) (fun _ _ e => e)) (Or.inl rfl)
  · simp only [hl0]; have := ok.len; omega
  · have := ok.safe0; simp only; omega
  · simp only [hl0]; omega
  · rw [block_set (block_set hb _) _, hl0]
    simp
  · rw [hl0]
    exact ((src_take hsrc hk).setOther (p := ⟨T, 0, none⟩) ne _).setOther (p := ⟨T, 2, none⟩) ne _
  · rw [hl0]
    refine ⟨Nat.le_refl _, hkm, fun e => ?_⟩
    have := hf.2.2 e
    have := hf.1
    omega

set_option maxRecDepth 100000 in
set_option maxHeartbeats 800000 in
theorem step_cut_down (w W : World) (R T : Nat) (m : M) (h : Both w R m T m W) (N K : Int) (a : Option Addr) (n c : Nat) (hd : m.down = true) :
    Calls Try.prog 10 #[.pointer (some ⟨R, 0, none⟩), .pointer (some ⟨T, 0, none⟩), .agg #[.int .i64 3, .int .i64 N, .int .i64 K, .slice a n c]] W (Stepped w R T) := by
  obtain ⟨E, ct, l, hb, hT, hR, hl, hxs, hfx⟩ := h.cells
  obtain ⟨h0, h1, h2, h3, h4, h5⟩ := twin_cells hb
  rw [hd] at h5
  have C := cut_b (h.alloc #[.int .i64 3, .int .i64 N, .int .i64 K, .slice a n c] 31) N
  rw [show m.cut N = (11, m) by unfold M.cut; rw [if_pos hd]] at C
  have C := Lib.hid C
  clear h0 h1 h2 h3 h4 hb hl hxs hfx hd h
  go_enter Try.func10, Try.ntmps10
  go_wp2_with fail
  refine C.out.mono ?_
  rintro e W1 ⟨rfl, h1⟩
  have H := Lib.hid (Stepped.of h1.both)
  clear h1
  go_wp2_with fail
  go_ret
  exact H.out

set_option maxRecDepth 100000 in
set_option maxHeartbeats 800000 in
theorem step_cut_range (w W : World) (R T : Nat) (m : M) (h : Both w R m T m W) (N K : Int) (a : Option Addr) (n c : Nat) (hd : m.down = false) (hr : N < 0 ∨ (m.xs.length : Int) < N) :
    Calls Try.prog 10 #[.pointer (some ⟨R, 0, none⟩), .pointer (some ⟨T, 0, none⟩), .agg #[.int .i64 3, .int .i64 N, .int .i64 K, .slice a n c]] W (Stepped w R T) := by
  obtain ⟨E, ct, l, hb, hT, hR, hl, hxs, hfx⟩ := h.cells
  obtain ⟨h0, h1, h2, h3, h4, h5⟩ := twin_cells hb
  rw [hd] at h5
  have C := fun q : Nat => cut_b ((h.alloc #[.int .i64 3, .int .i64 N, .int .i64 K, .slice a n c] 31).drewN q) N
  rw [show m.cut N = (12, m) by unfold M.cut; rw [if_neg (by simp [hd]), if_pos hr]] at C
  have C := Lib.hid C
  clear h1 h2 h3 h4 hb hl hxs hfx hd h
  by_cases hn : N < 0
  · have t1 : decide (N < 0) = true := by simpa using hn
    clear hr
    go_enter Try.func10, Try.ntmps10
    go_wp2_with fail
    go_quiet (fail)
    go_wp2_with fail
    refine (C.out _).mono ?_
    rintro e W1 ⟨rfl, h1⟩
    have H := Lib.hid (Stepped.of h1.both)
    clear h1
    go_wp2_with fail
    go_ret
    exact H.out
  · have t1 : decide (N < 0) = false := by simpa using hn
    have t2 : (m.xs.length : Int) < N := by omega
    clear hr
    go_enter Try.func10, Try.ntmps10
    go_wp2_with fail
    go_quiet (fail)
    go_wp2_with fail
    refine (C.out _).mono ?_
    rintro e W1 ⟨rfl, h1⟩
    have H := Lib.hid (Stepped.of h1.both)
    clear h1
    go_wp2_with fail
    go_ret
    exact H.out
end Go.Proofs.Ytccfjpjhkaicgaa
