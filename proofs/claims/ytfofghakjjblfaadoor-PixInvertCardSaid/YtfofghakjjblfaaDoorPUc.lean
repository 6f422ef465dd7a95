/- A curve's height, by the document. -/
import Derived.Test.YtfofghakjjblfaaDoorPUb
namespace Go.Proofs.YtfofghakjjblfaaDoor
open Go.RowKit
set_option linter.unusedVariables false

set_option maxHeartbeats 1600000 in
theorem docCurve_told (w : World) (a : Option Addr) (n c : Nat) (zs : List Int) (hnc : n ≤ c) (h : Ints w a n zs) (hp : Px.Points zs) (hb : Px.Bytes zs) (v : Int) (hv : Px.Byte v) :
    Calls Tryd.prog 35 #[.slice a n c, .int .i64 v] w (Told zs v w) := by
  have hn2 : 2 ≤ n := by rw [← h.1]; exact hp.1
  have hn32 : n ≤ 32 := by rw [← h.1]; exact hp.2.1
  have hne : n % 2 = 0 := by rw [← h.1]; exact hp.2.2.1
  have H := Lib.hid h
  have HP := Lib.hid hp
  have HB := Lib.hid hb
  obtain ⟨b, off, rfl, -, hc0⟩ := h.at (i := 0) (by omega)
  obtain ⟨b', off', e', -, hc1⟩ := h.at (i := 1) (by omega)
  cases e'
  rw [Nat.add_zero] at hc0
  have hn0 : 0 < n := by omega
  have hn1 : 1 < n := by omega
  have HV := Lib.hid hv
  obtain ⟨v0, v1⟩ := hv
  have z0 := Px.pt_byte hb 0
  have NE := Lib.hid hne
  clear h hp hb hne
  by_cases h0 : v ≤ Px.pt zs 0
  · have A := Lib.hid (show Px.CurveIs zs v (Px.pt zs 1) from .inl ⟨h0, rfl⟩)
    have t : decide (v ≤ Px.pt zs 0) = true := by simpa using h0
    clear h0 z0
    generalize Px.pt zs 0 = p0 at *
    generalize Px.pt zs 1 = p1 at *
    go_enter Tryd.func35, Tryd.ntmps35
    go_wp2_with fail
    go_ret
    exact ⟨_, A.out, rfl, Keeps.refl _ _⟩
  · have t : decide (v ≤ Px.pt zs 0) = false := by simpa using h0
    have H0 := Lib.hid (show Px.pt zs 0 < v by omega)
    clear h0 z0
    generalize Px.pt zs 1 = p1 at *
    generalize hp0 : Px.pt zs 0 = p0 at *
    have HP0 := Lib.hid hp0
    clear hp0
    go_enter Tryd.func35, Tryd.ntmps35
    go_wp2_with fail
    clear t hc0 hc1
    go_loopw [5] (fun cnt wr => ∃ k : Nat, 0 < k ∧ 2 * k ≤ n ∧ cnt = .int .i64 ((2 * k : Nat) : Int) ∧ (∀ j, j < k → Px.pt zs (2 * j) ≤ v) ∧ wr = w) (fun cnt _ => n - (intOf cnt).toNat)
    case atStart => exact ⟨1, by omega, by omega, rfl, fun j hj => by
      obtain rfl : j = 0 := by omega
      show Px.pt zs 0 ≤ v
      rw [HP0.out]
      have := H0.out; omega, rfl⟩
    case round =>
      obtain ⟨k, k0, kn, rfl, hA, rfl⟩ := hrel
      have HA := Lib.hid hA
      clear hA
      by_cases hlt : 2 * k < n
      · obtain ⟨bb, oo, e', hz, hc⟩ := H.out.at (i := 2 * k) hlt
        cases e'
        by_cases hvk : v < Px.pt zs (2 * k)
        · have t : decide (v < Px.pt zs (2 * k)) = true := by simpa using hvk
          obtain ⟨j, hj⟩ : ∃ j, 2 * k = j + 2 := ⟨2 * k - 2, by omega⟩
          have hj4 : j + 4 ≤ n := by have := NE.out; omega
          obtain ⟨bb, oo, e', -, d0⟩ := H.out.at (i := j) (by omega)
          cases e'
          obtain ⟨bb, oo, e', -, d1⟩ := H.out.at (i := j + 1) (by omega)
          cases e'
          obtain ⟨bb, oo, e', -, d2⟩ := H.out.at (i := j + 2) (by omega)
          cases e'
          obtain ⟨bb, oo, e', -, d3⟩ := H.out.at (i := j + 3) (by omega)
          cases e'
          have hr := HP.out.2.2.2 k k0 (by rw [H.out.1]; exact hlt)
          have hl := HA.out (k - 1) (by omega)
          rw [show 2 * (k - 1) = j by omega] at hl
          rw [hj, show j + 2 - 2 = j by omega] at hr
          have A := Lib.hid (Px.curve_doc HP.out (show Px.CurveDoc zs v (Px.line (Px.pt zs j) (Px.pt zs (j + 1)) (Px.pt zs (j + 2)) (Px.pt zs (j + 3)) v) from .inr (.inl ⟨by rw [HP0.out]; exact H0.out, k, k0, by rw [H.out.1]; exact hlt, HA.out, hvk, by rw [hj, show j + 2 - 2 = j by omega, show j + 2 - 1 = j + 1 by omega]⟩)))
          rw [hj] at hvk hc t hlt ⊢
          obtain ⟨⟨f0, f1⟩, g0, g1⟩ := line_facts (Px.pt_byte HB.out j) (Px.pt_byte HB.out (j + 1)) (Px.pt_byte HB.out (j + 2)) (Px.pt_byte HB.out (j + 3)) HV.out hr hl (Int.le_of_lt hvk)
          have HLN := Lib.hid (show Px.line (Px.pt zs j) (Px.pt zs (j + 1)) (Px.pt zs (j + 2)) (Px.pt zs (j + 3)) v = Px.pt zs (j + 1) + ((Px.pt zs (j + 3) - Px.pt zs (j + 1)) * (v - Px.pt zs j)).tdiv (Px.pt zs (j + 2) - Px.pt zs j) from rfl)
          obtain ⟨b00, b01⟩ := Px.pt_byte HB.out j
          obtain ⟨b10, b11⟩ := Px.pt_byte HB.out (j + 1)
          obtain ⟨b20, b21⟩ := Px.pt_byte HB.out (j + 2)
          obtain ⟨b30, b31⟩ := Px.pt_byte HB.out (j + 3)
          have hd : 0 < Px.pt zs (j + 2) - Px.pt zs j := by omega
          have HJ := Lib.hid hj
          clear hj hz
          generalize Px.line (Px.pt zs j) (Px.pt zs (j + 1)) (Px.pt zs (j + 2)) (Px.pt zs (j + 3)) v = r at *
          generalize Px.pt zs j = y0 at *
          generalize Px.pt zs (j + 1) = y1 at *
          generalize Px.pt zs (j + 2) = y2 at *
          generalize Px.pt zs (j + 3) = y3 at *
          obtain ⟨i, hi⟩ : ∃ i, i = j + 2 := ⟨_, rfl⟩
          obtain ⟨i1, hi1⟩ : ∃ i1, i1 = j + 1 := ⟨_, rfl⟩
          obtain ⟨i3, hi3⟩ : ∃ i3, i3 = j + 3 := ⟨_, rfl⟩
          rw [← hi] at d2 hc hlt ⊢
          rw [← hi1] at d1
          rw [← hi3] at d3
          have a1 : IntKind.i64.wrap ((i : Int) - 1) = (i1 : Int) := (wrap_i64 _ (by omega) (by omega)).trans (by omega)
          have a2 : IntKind.i64.wrap ((i : Int) - 2) = (j : Int) := (wrap_i64 _ (by omega) (by omega)).trans (by omega)
          have a3 : IntKind.i64.wrap ((i : Int) + 1) = (i3 : Int) := (wrap_i64 _ (by omega) (by omega)).trans (by omega)
          have s1 : IntKind.i64.wrap (y3 - y1) = y3 - y1 := wrap_i64 _ (by omega) (by omega)
          have s2 : IntKind.i64.wrap (v - y0) = v - y0 := wrap_i64 _ (by omega) (by omega)
          have s3 : IntKind.i64.wrap ((y3 - y1) * (v - y0)) = (y3 - y1) * (v - y0) := wrap_i64 _ (by omega) (by omega)
          have s4 : IntKind.i64.wrap (y2 - y0) = y2 - y0 := wrap_i64 _ (by omega) (by omega)
          have s5 : IntKind.i64.wrap (((y3 - y1) * (v - y0)).tdiv (y2 - y0)) = ((y3 - y1) * (v - y0)).tdiv (y2 - y0) := wrap_i64 _ (by omega) (by omega)
          have s6 : IntKind.i64.wrap (y1 + ((y3 - y1) * (v - y0)).tdiv (y2 - y0)) = y1 + ((y3 - y1) * (v - y0)).tdiv (y2 - y0) := wrap_i64 _ (by omega) (by omega)
          have k1 : (i : Int) < n := by omega
          have k2 : (i1 : Int) < n := by omega
          have k3 : (i3 : Int) < n := by omega
          have k4 : (j : Int) < n := by omega
          have nz : (y2 - y0 == 0) = false := by simp; omega
          clear hi hi1 hi3 hvk hr hl
          go_wp2_with fail
          go_quiet (fail)
          go_wp2_with fail
          go_ret
          exact ⟨_, A.out, by rw [HLN.out]; rfl, (Keeps.refl _ _).drewN _⟩
        · have t : decide (v < Px.pt zs (2 * k)) = false := by simpa using hvk
          have HV2 := Lib.hid (show Px.pt zs (2 * k) ≤ v by omega)
          obtain ⟨i, hi⟩ : ∃ i, i = 2 * k := ⟨_, rfl⟩
          rw [← hi] at hc t hlt HV2 ⊢
          have HI := Lib.hid hi
          clear hi hvk hz
          generalize hq : Px.pt zs i = q at *
          have HQ := Lib.hid hq
          clear hq
          go_wp2_with fail
          go_roundw
          case rel => exact ⟨k + 1, by omega, by have := HI.out; have := NE.out; omega, by have := HI.out; simp; omega, fun m hm => by
            by_cases e : m = k
            · subst e; rw [← HI.out, HQ.out]; exact HV2.out
            · exact HA.out m (by omega), trivial⟩
          case measure => simp [intOf]; omega
      · have hn : n = 2 * k := by have := NE.out; omega
        obtain ⟨bb, oo, e', hz, hc⟩ := H.out.at (i := n - 1) (by omega)
        cases e'
        have A := Lib.hid (Px.curve_doc HP.out (show Px.CurveDoc zs v (Px.pt zs (n - 1)) from .inr (.inr ⟨by rw [HP0.out]; exact H0.out, fun j hj => HA.out j (by rw [H.out.1] at hj; omega), by rw [H.out.1]⟩)))
        have t : decide (((2 * k : Nat) : Int) < (n : Int)) = false := by simp; omega
        obtain ⟨m, hm⟩ : ∃ m, n = m + 1 := ⟨n - 1, by omega⟩
        have hm1 : n - 1 = m := by omega
        rw [hm1] at hc hz A
        have hw : wrap64 ((n : Int) - 1) = (m : Int) := by unfold wrap64; omega
        have hmi : ((n : Int) - 1) = (m : Int) := by omega
        have hmn : m < n := by omega
        clear hm hm1 hn hz
        generalize Px.pt zs m = r at *
        go_wp2_with fail
        go_ret
        exact ⟨_, A.out, rfl, Keeps.refl _ _⟩
end Go.Proofs.YtfofghakjjblfaaDoor
