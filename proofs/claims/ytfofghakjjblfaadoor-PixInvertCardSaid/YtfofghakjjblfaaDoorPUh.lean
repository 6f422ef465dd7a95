/- Tables of curves, by the document. -/
import Derived.Test.YtfofghakjjblfaaDoorPUf
namespace Go.Proofs.YtfofghakjjblfaaDoor
open Go.RowKit
set_option linter.unusedVariables false

set_option maxRecDepth 100000 in
set_option maxHeartbeats 1600000 in
theorem docTable_curve_no1 (w : World) (a : Option Addr) (n c : Nat) (zs : List Int) (hn : n ≤ 16777216) (h : Ints w a n zs) (hB : Px.Bytes zs) (h0 : n < 2) : Calls Tryd.prog 24 #[.int .i64 1, .slice a n c] w (DocNo w) := by
  have H := Lib.hid h
  clear h
  have HB := Lib.hid hB
  clear hB
  have t9 : decide ((n : Int) < 2) = true := by simp; omega
  clear h0
  have hmk := make256
  go_enter Tryd.func24, Tryd.ntmps24
  go_wp2_with fail
  go_loopw [7] (fun cnt wr => ∃ i : Nat, i ≤ n ∧ cnt = .int .i64 i ∧ (∀ j, j < i → Px.Byte (Px.pt zs j)) ∧ wr = w) (fun cnt _ => n - (intOf cnt).toNat)
  case atStart => exact ⟨0, Nat.zero_le _, rfl, fun j hj => absurd hj (by omega), rfl⟩
  case round =>
    obtain ⟨i, hi, rfl, hA, rfl⟩ := hrel
    have HA := Lib.hid hA
    clear hA
    by_cases hlt : i < n
    · obtain ⟨b, off, rfl, hz, hc⟩ := H.out.at hlt
      clear hmk
      by_cases h0 : Px.pt zs i < 0
      · have NB := Lib.hid (show ¬ Px.Bytes zs from fun hb => by have := (Px.pt_byte hb i).1; omega)
        have t : decide (Px.pt zs i < 0) = true := by simpa using h0
        clear h0
        generalize Px.pt zs i = q at *
        exact absurd HB.out NB.out
      · by_cases h1 : 255 < Px.pt zs i
        · have NB := Lib.hid (show ¬ Px.Bytes zs from fun hb => by have := (Px.pt_byte hb i).2; omega)
          have t : decide (Px.pt zs i < 0) = false := by simpa using h0
          have t2 : decide (255 < Px.pt zs i) = true := by simpa using h1
          clear h0 h1
          generalize Px.pt zs i = q at *
          exact absurd HB.out NB.out
        · have t : decide (Px.pt zs i < 0) = false := by simpa using h0
          have t2 : decide (255 < Px.pt zs i) = false := by simpa using h1
          have HY := Lib.hid (show Px.Byte (Px.pt zs i) from ⟨by omega, by omega⟩)
          clear h0 h1
          generalize hq : Px.pt zs i = q at *
          have HQ := Lib.hid hq
          clear hq
          go_wp2_with fail
          go_roundw
          case rel => exact ⟨i + 1, by omega, by go_num, fun j hj => by
            by_cases e : j = i
            · subst e; rw [HQ.out]; exact HY.out
            · exact HA.out j (by omega), trivial⟩
          case measure => simp [intOf]; omega
    · obtain rfl : i = n := by omega
      clear hlt hi
      go_wp2_with fail
      go_ret2
      exact ⟨_, _, _, rfl, (Keeps.refl _ _).alloc _⟩
set_option maxRecDepth 100000 in
set_option maxHeartbeats 1600000 in
theorem docTable_curve_no2 (w : World) (a : Option Addr) (n c : Nat) (zs : List Int) (hn : n ≤ 16777216) (h : Ints w a n zs) (hB : Px.Bytes zs) (h0 : 32 < n) : Calls Tryd.prog 24 #[.int .i64 1, .slice a n c] w (DocNo w) := by
  have H := Lib.hid h
  clear h
  have HB := Lib.hid hB
  clear hB
  have t9 : decide ((n : Int) < 2) = false := by simp; omega
  have t10 : decide ((32 : Int) < n) = true := by simp; omega
  clear h0
  have hmk := make256
  go_enter Tryd.func24, Tryd.ntmps24
  go_wp2_with fail
  go_loopw [7] (fun cnt wr => ∃ i : Nat, i ≤ n ∧ cnt = .int .i64 i ∧ (∀ j, j < i → Px.Byte (Px.pt zs j)) ∧ wr = w) (fun cnt _ => n - (intOf cnt).toNat)
  case atStart => exact ⟨0, Nat.zero_le _, rfl, fun j hj => absurd hj (by omega), rfl⟩
  case round =>
    obtain ⟨i, hi, rfl, hA, rfl⟩ := hrel
    have HA := Lib.hid hA
    clear hA
    by_cases hlt : i < n
    · obtain ⟨b, off, rfl, hz, hc⟩ := H.out.at hlt
      clear hmk
      by_cases h0 : Px.pt zs i < 0
      · have NB := Lib.hid (show ¬ Px.Bytes zs from fun hb => by have := (Px.pt_byte hb i).1; omega)
        have t : decide (Px.pt zs i < 0) = true := by simpa using h0
        clear h0
        generalize Px.pt zs i = q at *
        exact absurd HB.out NB.out
      · by_cases h1 : 255 < Px.pt zs i
        · have NB := Lib.hid (show ¬ Px.Bytes zs from fun hb => by have := (Px.pt_byte hb i).2; omega)
          have t : decide (Px.pt zs i < 0) = false := by simpa using h0
          have t2 : decide (255 < Px.pt zs i) = true := by simpa using h1
          clear h0 h1
          generalize Px.pt zs i = q at *
          exact absurd HB.out NB.out
        · have t : decide (Px.pt zs i < 0) = false := by simpa using h0
          have t2 : decide (255 < Px.pt zs i) = false := by simpa using h1
          have HY := Lib.hid (show Px.Byte (Px.pt zs i) from ⟨by omega, by omega⟩)
          clear h0 h1
          generalize hq : Px.pt zs i = q at *
          have HQ := Lib.hid hq
          clear hq
          go_wp2_with fail
          go_roundw
          case rel => exact ⟨i + 1, by omega, by go_num, fun j hj => by
            by_cases e : j = i
            · subst e; rw [HQ.out]; exact HY.out
            · exact HA.out j (by omega), trivial⟩
          case measure => simp [intOf]; omega
    · obtain rfl : i = n := by omega
      clear hlt hi
      go_wp2_with fail
      go_ret2
      exact ⟨_, _, _, rfl, (Keeps.refl _ _).alloc _⟩
set_option maxRecDepth 100000 in
set_option maxHeartbeats 1600000 in
theorem docTable_curve_no3 (w : World) (a : Option Addr) (n c : Nat) (zs : List Int) (hn : n ≤ 16777216) (h : Ints w a n zs) (hB : Px.Bytes zs) (h0 : 2 ≤ n) (h1 : n ≤ 32) (h2 : n % 2 ≠ 0) : Calls Tryd.prog 24 #[.int .i64 1, .slice a n c] w (DocNo w) := by
  have H := Lib.hid h
  clear h
  have HB := Lib.hid hB
  clear hB
  have t9 : decide ((n : Int) < 2) = false := by simp; omega
  have t10 : decide ((32 : Int) < n) = false := by simp; omega
  have t11 : (n : Int) % 2 = 1 := by omega
  clear h0 h1 h2
  have hmk := make256
  go_enter Tryd.func24, Tryd.ntmps24
  go_wp2_with fail
  go_loopw [7] (fun cnt wr => ∃ i : Nat, i ≤ n ∧ cnt = .int .i64 i ∧ (∀ j, j < i → Px.Byte (Px.pt zs j)) ∧ wr = w) (fun cnt _ => n - (intOf cnt).toNat)
  case atStart => exact ⟨0, Nat.zero_le _, rfl, fun j hj => absurd hj (by omega), rfl⟩
  case round =>
    obtain ⟨i, hi, rfl, hA, rfl⟩ := hrel
    have HA := Lib.hid hA
    clear hA
    by_cases hlt : i < n
    · obtain ⟨b, off, rfl, hz, hc⟩ := H.out.at hlt
      clear hmk
      by_cases h0 : Px.pt zs i < 0
      · have NB := Lib.hid (show ¬ Px.Bytes zs from fun hb => by have := (Px.pt_byte hb i).1; omega)
        have t : decide (Px.pt zs i < 0) = true := by simpa using h0
        clear h0
        generalize Px.pt zs i = q at *
        exact absurd HB.out NB.out
      · by_cases h1 : 255 < Px.pt zs i
        · have NB := Lib.hid (show ¬ Px.Bytes zs from fun hb => by have := (Px.pt_byte hb i).2; omega)
          have t : decide (Px.pt zs i < 0) = false := by simpa using h0
          have t2 : decide (255 < Px.pt zs i) = true := by simpa using h1
          clear h0 h1
          generalize Px.pt zs i = q at *
          exact absurd HB.out NB.out
        · have t : decide (Px.pt zs i < 0) = false := by simpa using h0
          have t2 : decide (255 < Px.pt zs i) = false := by simpa using h1
          have HY := Lib.hid (show Px.Byte (Px.pt zs i) from ⟨by omega, by omega⟩)
          clear h0 h1
          generalize hq : Px.pt zs i = q at *
          have HQ := Lib.hid hq
          clear hq
          go_wp2_with fail
          go_roundw
          case rel => exact ⟨i + 1, by omega, by go_num, fun j hj => by
            by_cases e : j = i
            · subst e; rw [HQ.out]; exact HY.out
            · exact HA.out j (by omega), trivial⟩
          case measure => simp [intOf]; omega
    · obtain rfl : i = n := by omega
      clear hlt hi
      go_wp2_with fail
      go_ret2
      exact ⟨_, _, _, rfl, (Keeps.refl _ _).alloc _⟩
set_option maxRecDepth 100000 in
set_option maxHeartbeats 1600000 in
theorem docTable_curve_no (w : World) (a : Option Addr) (n c : Nat) (zs : List Int) (hn : n ≤ 16777216) (h : Ints w a n zs) (hB : Px.Bytes zs) (hnc : n ≤ c) (h0 : 2 ≤ n) (h1 : n ≤ 32) (h2 : n % 2 = 0) (hp : ¬ Px.Points zs) : Calls Tryd.prog 24 #[.int .i64 1, .slice a n c] w (DocNo w) := by
  have H := Lib.hid h
  clear h
  have HB := Lib.hid hB
  clear hB
  have t9 : decide ((n : Int) < 2) = false := by simp; omega
  have t10 : decide ((32 : Int) < n) = false := by simp; omega
  have t11 : (n : Int) % 2 = 0 := by omega
  have HP := Lib.hid hp
  have HE := Lib.hid (And.intro h0 h2)
  clear h2 hp
  have hmk := make256
  go_enter Tryd.func24, Tryd.ntmps24
  go_wp2_with fail
  go_loopw [7] (fun cnt wr => ∃ i : Nat, i ≤ n ∧ cnt = .int .i64 i ∧ (∀ j, j < i → Px.Byte (Px.pt zs j)) ∧ wr = w) (fun cnt _ => n - (intOf cnt).toNat)
  case atStart => exact ⟨0, Nat.zero_le _, rfl, fun j hj => absurd hj (by omega), rfl⟩
  case round =>
    obtain ⟨i, hi, rfl, hA, rfl⟩ := hrel
    have HA := Lib.hid hA
    clear hA
    by_cases hlt : i < n
    · obtain ⟨b, off, rfl, hz, hc⟩ := H.out.at hlt
      clear hmk
      by_cases h0 : Px.pt zs i < 0
      · have NB := Lib.hid (show ¬ Px.Bytes zs from fun hb => by have := (Px.pt_byte hb i).1; omega)
        have t : decide (Px.pt zs i < 0) = true := by simpa using h0
        clear h0
        generalize Px.pt zs i = q at *
        exact absurd HB.out NB.out
      · by_cases h1 : 255 < Px.pt zs i
        · have NB := Lib.hid (show ¬ Px.Bytes zs from fun hb => by have := (Px.pt_byte hb i).2; omega)
          have t : decide (Px.pt zs i < 0) = false := by simpa using h0
          have t2 : decide (255 < Px.pt zs i) = true := by simpa using h1
          clear h0 h1
          generalize Px.pt zs i = q at *
          exact absurd HB.out NB.out
        · have t : decide (Px.pt zs i < 0) = false := by simpa using h0
          have t2 : decide (255 < Px.pt zs i) = false := by simpa using h1
          have HY := Lib.hid (show Px.Byte (Px.pt zs i) from ⟨by omega, by omega⟩)
          clear h0 h1
          generalize hq : Px.pt zs i = q at *
          have HQ := Lib.hid hq
          clear hq
          go_wp2_with fail
          go_roundw
          case rel => exact ⟨i + 1, by omega, by go_num, fun j hj => by
            by_cases e : j = i
            · subst e; rw [HQ.out]; exact HY.out
            · exact HA.out j (by omega), trivial⟩
          case measure => simp [intOf]; omega
    · obtain rfl : i = n := by omega
      clear hlt hi
      obtain ⟨wo, rfl⟩ : ∃ wo : World, wo = wr := ⟨_, rfl⟩
      obtain ⟨n, hni⟩ : ∃ n, n = i := ⟨_, rfl⟩
      subst hni
      have T0 := Lib.hid (tblZ_new wo (Px.repl 1 zs))
      have K0 := Lib.hid ((Keeps.refl none' wo).alloc (.cells (madeCells #[.int .i64 0] 256) 3))
      go_wp2_with fail
      obtain ⟨B, hB⟩ : ∃ B, B = wo.heap.size := ⟨_, rfl⟩
      obtain ⟨w1, hw1⟩ : ∃ w1, w1 = wo.alloc (.cells (madeCells #[.int .i64 0] 256) 3) := ⟨_, rfl⟩
      rw [← hw1] at T0 K0
      rw [← hB] at T0
      rw [← hw1, ← hB]
      have LB := Lib.hid (show wo.heap.size ≤ B by omega)
      clear hw1 hB hmk t11
      go_loopw [10] (fun cnt wl => ∃ k : Nat, 0 < k ∧ 2 * k ≤ n ∧ cnt = .int .i64 ((2 * k : Nat) : Int) ∧ Rise zs k ∧ ∃ q, wl = w1.drewN q) (fun cnt _ => n - (intOf cnt).toNat)
      case atStart => exact ⟨1, by omega, by omega, rfl, fun m a1 a2 => by omega, 0, rfl⟩
      case round =>
        obtain ⟨k, k0, kn, rfl, hR, q, rfl⟩ := hrel
        have HR := Lib.hid hR
        clear hR
        by_cases hlt : 2 * k < n
        · obtain ⟨j, hj⟩ : ∃ j, 2 * k = j + 2 := ⟨2 * k - 2, by omega⟩
          obtain ⟨bb, off, rfl, hz, hc⟩ := (H.out.later K0.out).at (i := j) (by omega)
          obtain ⟨bb', off', e', hz', hc'⟩ := (H.out.later K0.out).at (i := j + 2) (by omega)
          cases e'
          have HJ := Lib.hid hj
          obtain ⟨i, hi⟩ : ∃ i, i = j + 2 := ⟨_, rfl⟩
          rw [hj] at hlt ⊢
          have hq : Rise zs (k + 1) ↔ Px.pt zs j < Px.pt zs (j + 2) := by
            constructor
            · intro h
              have := h k k0 (by omega)
              rwa [hj, show j + 2 - 2 = j by omega] at this
            · intro h m g1 g2
              by_cases e : m = k
              · subst e; rw [hj, show j + 2 - 2 = j by omega]; exact h
              · exact HR.out m g1 (by omega)
          have HQ := Lib.hid hq
          clear hq hj
          rw [← hi] at hc' hz' HQ HJ hlt ⊢
          have w0 : IntKind.i64.wrap ((i : Int) - 2) = (j : Int) := by rw [hi]; exact (wrap_i64 _ (by omega) (by omega)).trans (by omega)
          have HI := Lib.hid hi
          have hji : (j : Int) < n := by omega
          have hii : (i : Int) < n := by omega
          clear hi
          by_cases hlt2 : Px.pt zs j < Px.pt zs i
          · have t5 : decide (Px.pt zs i ≤ Px.pt zs j) = false := by simp; omega
            have R2 := Lib.hid (HQ.out.2 hlt2)
            clear hlt2
            generalize Px.pt zs i = zi at *
            generalize Px.pt zs j = zj at *
            go_wp2_with fail
            go_quiet (fail)
            go_wp2_with fail
            go_roundw
            case rel => exact ⟨k + 1, by omega, by have := HJ.out; have := HI.out; have := HE.out; omega, by have := HJ.out; have := HI.out; simp; omega, R2.out, q + nq, by simp⟩
            case measure => simp [intOf]; omega
          · have t5 : decide (Px.pt zs i ≤ Px.pt zs j) = true := by simp; omega
            clear hlt2
            generalize Px.pt zs i = zi at *
            generalize Px.pt zs j = zj at *
            go_wp2_with fail
            go_quiet (fail)
            go_wp2_with fail
            go_ret2
            exact ⟨_, _, _, rfl, (K0.out.drewN q).drewN nq⟩
        · exact absurd ⟨by rw [H.out.1]; omega, by rw [H.out.1]; omega, by rw [H.out.1]; exact HE.out.2, fun m g1 g2 => HR.out m g1 (by rw [H.out.1] at g2; omega)⟩ HP.out
set_option maxRecDepth 100000 in
set_option maxHeartbeats 1600000 in
theorem docTable_curve (w : World) (a : Option Addr) (n c : Nat) (zs : List Int) (hn : n ≤ 16777216) (h : Ints w a n zs) (hB : Px.Bytes zs) (hnc : n ≤ c) (h0 : 2 ≤ n) (h1 : n ≤ 32) (h2 : n % 2 = 0) (hp : Px.Points zs) : Calls Tryd.prog 24 #[.int .i64 1, .slice a n c] w (Tabled w (Px.repl 1 zs)) := by
  have H := Lib.hid h
  clear h
  have HB := Lib.hid hB
  clear hB
  have t9 : decide ((n : Int) < 2) = false := by simp; omega
  have t10 : decide ((32 : Int) < n) = false := by simp; omega
  have t11 : (n : Int) % 2 = 0 := by omega
  have HP := Lib.hid hp
  have HE := Lib.hid (And.intro h0 h2)
  clear h2 hp
  have hmk := make256
  go_enter Tryd.func24, Tryd.ntmps24
  go_wp2_with fail
  go_loopw [7] (fun cnt wr => ∃ i : Nat, i ≤ n ∧ cnt = .int .i64 i ∧ (∀ j, j < i → Px.Byte (Px.pt zs j)) ∧ wr = w) (fun cnt _ => n - (intOf cnt).toNat)
  case atStart => exact ⟨0, Nat.zero_le _, rfl, fun j hj => absurd hj (by omega), rfl⟩
  case round =>
    obtain ⟨i, hi, rfl, hA, rfl⟩ := hrel
    have HA := Lib.hid hA
    clear hA
    by_cases hlt : i < n
    · obtain ⟨b, off, rfl, hz, hc⟩ := H.out.at hlt
      clear hmk
      by_cases h0 : Px.pt zs i < 0
      · have NB := Lib.hid (show ¬ Px.Bytes zs from fun hb => by have := (Px.pt_byte hb i).1; omega)
        have t : decide (Px.pt zs i < 0) = true := by simpa using h0
        clear h0
        generalize Px.pt zs i = q at *
        exact absurd HB.out NB.out
      · by_cases h1 : 255 < Px.pt zs i
        · have NB := Lib.hid (show ¬ Px.Bytes zs from fun hb => by have := (Px.pt_byte hb i).2; omega)
          have t : decide (Px.pt zs i < 0) = false := by simpa using h0
          have t2 : decide (255 < Px.pt zs i) = true := by simpa using h1
          clear h0 h1
          generalize Px.pt zs i = q at *
          exact absurd HB.out NB.out
        · have t : decide (Px.pt zs i < 0) = false := by simpa using h0
          have t2 : decide (255 < Px.pt zs i) = false := by simpa using h1
          have HY := Lib.hid (show Px.Byte (Px.pt zs i) from ⟨by omega, by omega⟩)
          clear h0 h1
          generalize hq : Px.pt zs i = q at *
          have HQ := Lib.hid hq
          clear hq
          go_wp2_with fail
          go_roundw
          case rel => exact ⟨i + 1, by omega, by go_num, fun j hj => by
            by_cases e : j = i
            · subst e; rw [HQ.out]; exact HY.out
            · exact HA.out j (by omega), trivial⟩
          case measure => simp [intOf]; omega
    · obtain rfl : i = n := by omega
      clear hlt hi
      obtain ⟨wo, rfl⟩ : ∃ wo : World, wo = wr := ⟨_, rfl⟩
      obtain ⟨n, hni⟩ : ∃ n, n = i := ⟨_, rfl⟩
      subst hni
      have T0 := Lib.hid (tblZ_new wo (Px.repl 1 zs))
      have K0 := Lib.hid ((Keeps.refl none' wo).alloc (.cells (madeCells #[.int .i64 0] 256) 3))
      go_wp2_with fail
      obtain ⟨B, hB⟩ : ∃ B, B = wo.heap.size := ⟨_, rfl⟩
      obtain ⟨w1, hw1⟩ : ∃ w1, w1 = wo.alloc (.cells (madeCells #[.int .i64 0] 256) 3) := ⟨_, rfl⟩
      rw [← hw1] at T0 K0
      rw [← hB] at T0
      rw [← hw1, ← hB]
      have LB := Lib.hid (show wo.heap.size ≤ B by omega)
      clear hw1 hB hmk t11
      go_loopw [10] (fun cnt wl => ∃ k : Nat, 0 < k ∧ 2 * k ≤ n ∧ cnt = .int .i64 ((2 * k : Nat) : Int) ∧ Rise zs k ∧ ∃ q, wl = w1.drewN q) (fun cnt _ => n - (intOf cnt).toNat)
      case atStart => exact ⟨1, by omega, by omega, rfl, fun m a1 a2 => by omega, 0, rfl⟩
      case round =>
        obtain ⟨k, k0, kn, rfl, hR, q, rfl⟩ := hrel
        have HR := Lib.hid hR
        clear hR
        by_cases hlt : 2 * k < n
        · obtain ⟨j, hj⟩ : ∃ j, 2 * k = j + 2 := ⟨2 * k - 2, by omega⟩
          obtain ⟨bb, off, rfl, hz, hc⟩ := (H.out.later K0.out).at (i := j) (by omega)
          obtain ⟨bb', off', e', hz', hc'⟩ := (H.out.later K0.out).at (i := j + 2) (by omega)
          cases e'
          have HJ := Lib.hid hj
          obtain ⟨i, hi⟩ : ∃ i, i = j + 2 := ⟨_, rfl⟩
          rw [hj] at hlt ⊢
          have hq : Rise zs (k + 1) ↔ Px.pt zs j < Px.pt zs (j + 2) := by
            constructor
            · intro h
              have := h k k0 (by omega)
              rwa [hj, show j + 2 - 2 = j by omega] at this
            · intro h m g1 g2
              by_cases e : m = k
              · subst e; rw [hj, show j + 2 - 2 = j by omega]; exact h
              · exact HR.out m g1 (by omega)
          have HQ := Lib.hid hq
          clear hq hj
          rw [← hi] at hc' hz' HQ HJ hlt ⊢
          have w0 : IntKind.i64.wrap ((i : Int) - 2) = (j : Int) := by rw [hi]; exact (wrap_i64 _ (by omega) (by omega)).trans (by omega)
          have HI := Lib.hid hi
          have hji : (j : Int) < n := by omega
          have hii : (i : Int) < n := by omega
          clear hi
          by_cases hlt2 : Px.pt zs j < Px.pt zs i
          · have t5 : decide (Px.pt zs i ≤ Px.pt zs j) = false := by simp; omega
            have R2 := Lib.hid (HQ.out.2 hlt2)
            clear hlt2
            generalize Px.pt zs i = zi at *
            generalize Px.pt zs j = zj at *
            go_wp2_with fail
            go_quiet (fail)
            go_wp2_with fail
            go_roundw
            case rel => exact ⟨k + 1, by omega, by have := HJ.out; have := HI.out; have := HE.out; omega, by have := HJ.out; have := HI.out; simp; omega, R2.out, q + nq, by simp⟩
            case measure => simp [intOf]; omega
          · exact absurd (HQ.out.1 (fun m g1 g2 => HP.out.2.2.2 m g1 (by rw [H.out.1]; have := HJ.out; have := HI.out; omega))) hlt2
        · obtain ⟨i2, hi2⟩ : ∃ i2, i2 = 2 * k := ⟨_, rfl⟩
          rw [← hi2] at hlt ⊢
          have t5 : decide ((i2 : Int) < (n : Int)) = false := by simp; omega
          clear hi2
          have T1 := Lib.hid (show TblZ (w1.drewN q) B 0 (Px.repl 1 zs) from T0.out)
          have K1 := Lib.hid (K0.out.drewN q)
          go_wp2_with fail
          generalize w1.drewN q = w2 at *
          clear T0 K0
          go_loopw [11] (fun cnt wl => ∃ k : Nat, k ≤ 256 ∧ cnt = .int .i64 k ∧ TblZ wl B k (Px.repl 1 zs) ∧ Keeps none' wo wl) (fun cnt _ => 256 - (intOf cnt).toNat)
          case atStart => exact ⟨0, by omega, rfl, T1.out, K1.out⟩
          case round =>
            obtain ⟨m, hm, rfl, hT, hK⟩ := hrel
            have HT := Lib.hid hT
            have HK := Lib.hid hK
            clear hT hK
            by_cases hlt : m < 256
            · have R := Lib.hid (docCurve_any wr a n c zs hnc (H.out.later HK.out) HP.out HB.out (m : Int) ⟨by omega, by omega⟩)
              have hki : (m : Int) < 256 := by omega
              go_wp2_with fail
              refine R.out.mono ?_
              rintro e w3 ⟨rfl, hk2⟩
              have HT2 := Lib.hid (HT.out.later hk2)
              have X := HT2.out.next hlt
              have Y := (HK.out.next hk2).setCell (p := ⟨B, m, none⟩) (fun e => by have := LB.out; simp only at e; omega) (.int .i64 (Px.repl 1 zs m))
              rw [show Px.repl 1 zs m = Px.curve zs m from rfl] at X Y
              have X := Lib.hid X
              have Y := Lib.hid Y
              obtain ⟨ov, o1, o2⟩ := HT2.out.old hlt
              clear hk2
              generalize Px.curve zs m = r at *
              go_wp2_with fail
              go_roundw
              case rel => exact ⟨m + 1, by omega, by go_num, X.out, Y.out⟩
              case measure => simp [intOf]; omega
            · obtain rfl : m = 256 := by omega
              go_wp2_with fail
              go_ret2
              exact ⟨B, rfl, HT.out.all, HK.out, LB.out⟩
end Go.Proofs.YtfofghakjjblfaaDoor
