/- Tables of levels and of curves, by the document. -/
import Derived.Test.YtfofghakjjblfaaDoorPUf
namespace Go.Proofs.YtfofghakjjblfaaDoor
open Go.RowKit
set_option linter.unusedVariables false

set_option maxRecDepth 100000 in
set_option maxHeartbeats 1600000 in
theorem docTable_levels_no2 (w : World) (a : Option Addr) (n c : Nat) (zs : List Int) (hn : n ≤ 16777216) (h : Ints w a n zs) (hB : Px.Bytes zs) (h0 : n ≠ 2) : Calls Tryd.prog 24 #[.int .i64 0, .slice a n c] w (DocNo w) := by
  have H := Lib.hid h
  clear h
  have HB := Lib.hid hB
  clear hB
  have t9 : ((n : Int) != 2) = true := by simp; omega
  clear h0
  have hmk := make256
  go_enter Tryd.func24, Tryd.ntmps24
  go_wp2_with fail
  go_loopw [7] (fun cnt wr => ∃ i : Nat, i ≤ n ∧ cnt = .int .i64 i ∧ (∀ j, j < i → Px.Byte (Px.pt zs j)) ∧ wr = w) (fun cnt _ => n - (intOf cnt).toNat)
  case atStart => exact ⟨0, Nat.zero_le _, rfl, fun j hj => absurd hj (by omega), rfl⟩
  case round =>
    obtain ⟨i, hi, rfl, hA, rfl⟩ := hrel
    have HA := Lib.hid hA
    clear hA
    by_cases hlt : i < n
    · obtain ⟨b, off, rfl, hz, hc⟩ := H.out.at hlt
      clear hmk
      by_cases h0 : Px.pt zs i < 0
      · have NB := Lib.hid (show ¬ Px.Bytes zs from fun hb => by have := (Px.pt_byte hb i).1; omega)
        have t : decide (Px.pt zs i < 0) = true := by simpa using h0
        clear h0
        generalize Px.pt zs i = q at *
        exact absurd HB.out NB.out
      · by_cases h1 : 255 < Px.pt zs i
        · have NB := Lib.hid (show ¬ Px.Bytes zs from fun hb => by have := (Px.pt_byte hb i).2; omega)
          have t : decide (Px.pt zs i < 0) = false := by simpa using h0
          have t2 : decide (255 < Px.pt zs i) = true := by simpa using h1
          clear h0 h1
          generalize Px.pt zs i = q at *
          exact absurd HB.out NB.out
        · have t : decide (Px.pt zs i < 0) = false := by simpa using h0
          have t2 : decide (255 < Px.pt zs i) = false := by simpa using h1
          have HY := Lib.hid (show Px.Byte (Px.pt zs i) from ⟨by omega, by omega⟩)
          clear h0 h1
          generalize hq : Px.pt zs i = q at *
          have HQ := Lib.hid hq
          clear hq
          go_wp2_with fail
          go_roundw
          case rel => exact ⟨i + 1, by omega, by go_num, fun j hj => by
            by_cases e : j = i
            · subst e; rw [HQ.out]; exact HY.out
            · exact HA.out j (by omega), trivial⟩
          case measure => simp [intOf]; omega
    · obtain rfl : i = n := by omega
      clear hlt hi
      obtain ⟨wo, rfl⟩ : ∃ wo : World, wo = wr := ⟨_, rfl⟩
      have K0 := Lib.hid ((Keeps.refl none' wo).alloc (.cells (madeCells #[.int .i64 0] 256) 3))
      go_wp2_with fail
      generalize wo.alloc (.cells (madeCells #[.int .i64 0] 256) 3) = w1 at *
      go_quiet (fail)
      go_wp2_with fail
      go_ret2
      exact ⟨_, _, _, rfl, K0.out.drewN _⟩
set_option maxRecDepth 100000 in
set_option maxHeartbeats 1600000 in
theorem docTable_levels_no (w : World) (a : Option Addr) (n c : Nat) (zs : List Int) (hn : n ≤ 16777216) (h : Ints w a n zs) (hB : Px.Bytes zs) (h0 : n = 2) (hlt0 : ¬ Px.pt zs 0 < Px.pt zs 1) : Calls Tryd.prog 24 #[.int .i64 0, .slice a n c] w (DocNo w) := by
  have H := Lib.hid h
  clear h
  have HB := Lib.hid hB
  clear hB
  have t9 : ((n : Int) != 2) = false := by simp; omega
  have hn0 : 0 < n := by omega
  have hn1 : 1 < n := by omega
  have hn1i : (1 : Int) < (n : Int) := by omega
  have hn0i : (0 : Int) < (n : Int) := by omega
  clear h0
  have t11 : decide (Px.pt zs 1 ≤ Px.pt zs 0) = true := by simp; omega
  clear hlt0
  have hmk := make256
  go_enter Tryd.func24, Tryd.ntmps24
  go_wp2_with fail
  go_loopw [7] (fun cnt wr => ∃ i : Nat, i ≤ n ∧ cnt = .int .i64 i ∧ (∀ j, j < i → Px.Byte (Px.pt zs j)) ∧ wr = w) (fun cnt _ => n - (intOf cnt).toNat)
  case atStart => exact ⟨0, Nat.zero_le _, rfl, fun j hj => absurd hj (by omega), rfl⟩
  case round =>
    obtain ⟨i, hi, rfl, hA, rfl⟩ := hrel
    have HA := Lib.hid hA
    clear hA
    by_cases hlt : i < n
    · obtain ⟨b, off, rfl, hz, hc⟩ := H.out.at hlt
      clear hmk
      by_cases h0 : Px.pt zs i < 0
      · have NB := Lib.hid (show ¬ Px.Bytes zs from fun hb => by have := (Px.pt_byte hb i).1; omega)
        have t : decide (Px.pt zs i < 0) = true := by simpa using h0
        clear h0
        generalize Px.pt zs i = q at *
        exact absurd HB.out NB.out
      · by_cases h1 : 255 < Px.pt zs i
        · have NB := Lib.hid (show ¬ Px.Bytes zs from fun hb => by have := (Px.pt_byte hb i).2; omega)
          have t : decide (Px.pt zs i < 0) = false := by simpa using h0
          have t2 : decide (255 < Px.pt zs i) = true := by simpa using h1
          clear h0 h1
          generalize Px.pt zs i = q at *
          exact absurd HB.out NB.out
        · have t : decide (Px.pt zs i < 0) = false := by simpa using h0
          have t2 : decide (255 < Px.pt zs i) = false := by simpa using h1
          have HY := Lib.hid (show Px.Byte (Px.pt zs i) from ⟨by omega, by omega⟩)
          clear h0 h1
          generalize hq : Px.pt zs i = q at *
          have HQ := Lib.hid hq
          clear hq
          go_wp2_with fail
          go_roundw
          case rel => exact ⟨i + 1, by omega, by go_num, fun j hj => by
            by_cases e : j = i
            · subst e; rw [HQ.out]; exact HY.out
            · exact HA.out j (by omega), trivial⟩
          case measure => simp [intOf]; omega
    · obtain rfl : i = n := by omega
      clear hlt hi
      obtain ⟨wo, rfl⟩ : ∃ wo : World, wo = wr := ⟨_, rfl⟩
      obtain ⟨b, off, rfl, -, hc0⟩ := H.out.at (i := 0) (by omega)
      obtain ⟨b', off', e', -, hc1⟩ := H.out.at (i := 1) (by omega)
      cases e'
      rw [Nat.add_zero] at hc0
      have T0 := Lib.hid (tblZ_new wo (Px.repl 0 zs))
      have K0 := Lib.hid ((Keeps.refl none' wo).alloc (.cells (madeCells #[.int .i64 0] 256) 3))
      have HR := Lib.hid (show ∀ v, Px.repl 0 zs v = Px.level (Px.pt zs 0) (Px.pt zs 1) v from fun v => rfl)
      obtain ⟨b00, b01⟩ := Px.pt_byte HB.out 0
      obtain ⟨b10, b11⟩ := Px.pt_byte HB.out 1
      have d0 := ((Keeps.refl none' wo).alloc (.cells (madeCells #[.int .i64 0] 256) 3)).cell hc0
      have d1 := ((Keeps.refl none' wo).alloc (.cells (madeCells #[.int .i64 0] 256) 3)).cell hc1
      have HC := Lib.hid (And.intro hc0 hc1)
      clear hc0 hc1
      generalize Px.repl 0 zs = f at *
      generalize Px.pt zs 0 = p0 at *
      generalize Px.pt zs 1 = p1 at *
      go_wp2_with fail
      obtain ⟨B, hB⟩ : ∃ B, B = wo.heap.size := ⟨_, rfl⟩
      obtain ⟨w1, hw1⟩ : ∃ w1, w1 = wo.alloc (.cells (madeCells #[.int .i64 0] 256) 3) := ⟨_, rfl⟩
      rw [← hw1] at T0 K0 d0 d1
      rw [← hB] at T0
      rw [← hw1, ← hB]
      have LB := Lib.hid (show wo.heap.size ≤ B by omega)
      clear hw1 hB hmk
      go_quiet (fail)
      go_wp2_with fail
      go_ret2
      exact ⟨_, _, _, rfl, K0.out.drewN _⟩
set_option maxRecDepth 100000 in
set_option maxHeartbeats 1600000 in
theorem docTable_levels (w : World) (a : Option Addr) (n c : Nat) (zs : List Int) (hn : n ≤ 16777216) (h : Ints w a n zs) (hB : Px.Bytes zs) (h0 : n = 2) (hlt0 : Px.pt zs 0 < Px.pt zs 1) : Calls Tryd.prog 24 #[.int .i64 0, .slice a n c] w (Tabled w (Px.repl 0 zs)) := by
  have H := Lib.hid h
  clear h
  have HB := Lib.hid hB
  clear hB
  have t9 : ((n : Int) != 2) = false := by simp; omega
  have hn0 : 0 < n := by omega
  have hn1 : 1 < n := by omega
  have hn1i : (1 : Int) < (n : Int) := by omega
  have hn0i : (0 : Int) < (n : Int) := by omega
  clear h0
  have t11 : decide (Px.pt zs 1 ≤ Px.pt zs 0) = false := by simp; omega
  have hmk := make256
  go_enter Tryd.func24, Tryd.ntmps24
  go_wp2_with fail
  go_loopw [7] (fun cnt wr => ∃ i : Nat, i ≤ n ∧ cnt = .int .i64 i ∧ (∀ j, j < i → Px.Byte (Px.pt zs j)) ∧ wr = w) (fun cnt _ => n - (intOf cnt).toNat)
  case atStart => exact ⟨0, Nat.zero_le _, rfl, fun j hj => absurd hj (by omega), rfl⟩
  case round =>
    obtain ⟨i, hi, rfl, hA, rfl⟩ := hrel
    have HA := Lib.hid hA
    clear hA
    by_cases hlt : i < n
    · obtain ⟨b, off, rfl, hz, hc⟩ := H.out.at hlt
      clear hmk
      by_cases h0 : Px.pt zs i < 0
      · have NB := Lib.hid (show ¬ Px.Bytes zs from fun hb => by have := (Px.pt_byte hb i).1; omega)
        have t : decide (Px.pt zs i < 0) = true := by simpa using h0
        clear h0
        generalize Px.pt zs i = q at *
        exact absurd HB.out NB.out
      · by_cases h1 : 255 < Px.pt zs i
        · have NB := Lib.hid (show ¬ Px.Bytes zs from fun hb => by have := (Px.pt_byte hb i).2; omega)
          have t : decide (Px.pt zs i < 0) = false := by simpa using h0
          have t2 : decide (255 < Px.pt zs i) = true := by simpa using h1
          clear h0 h1
          generalize Px.pt zs i = q at *
          exact absurd HB.out NB.out
        · have t : decide (Px.pt zs i < 0) = false := by simpa using h0
          have t2 : decide (255 < Px.pt zs i) = false := by simpa using h1
          have HY := Lib.hid (show Px.Byte (Px.pt zs i) from ⟨by omega, by omega⟩)
          clear h0 h1
          generalize hq : Px.pt zs i = q at *
          have HQ := Lib.hid hq
          clear hq
          go_wp2_with fail
          go_roundw
          case rel => exact ⟨i + 1, by omega, by go_num, fun j hj => by
            by_cases e : j = i
            · subst e; rw [HQ.out]; exact HY.out
            · exact HA.out j (by omega), trivial⟩
          case measure => simp [intOf]; omega
    · obtain rfl : i = n := by omega
      clear hlt hi
      obtain ⟨wo, rfl⟩ : ∃ wo : World, wo = wr := ⟨_, rfl⟩
      obtain ⟨b, off, rfl, -, hc0⟩ := H.out.at (i := 0) (by omega)
      obtain ⟨b', off', e', -, hc1⟩ := H.out.at (i := 1) (by omega)
      cases e'
      rw [Nat.add_zero] at hc0
      have T0 := Lib.hid (tblZ_new wo (Px.repl 0 zs))
      have K0 := Lib.hid ((Keeps.refl none' wo).alloc (.cells (madeCells #[.int .i64 0] 256) 3))
      have HR := Lib.hid (show ∀ v, Px.repl 0 zs v = Px.level (Px.pt zs 0) (Px.pt zs 1) v from fun v => rfl)
      obtain ⟨b00, b01⟩ := Px.pt_byte HB.out 0
      obtain ⟨b10, b11⟩ := Px.pt_byte HB.out 1
      have d0 := ((Keeps.refl none' wo).alloc (.cells (madeCells #[.int .i64 0] 256) 3)).cell hc0
      have d1 := ((Keeps.refl none' wo).alloc (.cells (madeCells #[.int .i64 0] 256) 3)).cell hc1
      have HC := Lib.hid (And.intro hc0 hc1)
      clear hc0 hc1
      generalize Px.repl 0 zs = f at *
      generalize Px.pt zs 0 = p0 at *
      generalize Px.pt zs 1 = p1 at *
      go_wp2_with fail
      obtain ⟨B, hB⟩ : ∃ B, B = wo.heap.size := ⟨_, rfl⟩
      obtain ⟨w1, hw1⟩ : ∃ w1, w1 = wo.alloc (.cells (madeCells #[.int .i64 0] 256) 3) := ⟨_, rfl⟩
      rw [← hw1] at T0 K0 d0 d1
      rw [← hB] at T0
      rw [← hw1, ← hB]
      have LB := Lib.hid (show wo.heap.size ≤ B by omega)
      clear hw1 hB hmk
      go_quiet (fail)
      go_wp2_with fail
      clear d0 d1 t11
      go_loopw [9] (fun cnt wl => ∃ k : Nat, k ≤ 256 ∧ cnt = .int .i64 k ∧ TblZ wl B k f ∧ Keeps none' wo wl) (fun cnt _ => 256 - (intOf cnt).toNat)
      case atStart => exact ⟨0, by omega, rfl, T0.out, K0.out.drewN _⟩
      case round =>
        obtain ⟨k, hk, rfl, hT, hK⟩ := hrel
        have HT := Lib.hid hT
        have HK := Lib.hid hK
        clear hT hK
        by_cases hlt : k < 256
        · have hki : (k : Int) < 256 := by omega
          have c0 := HK.out.cell HC.out.1
          have c1 := HK.out.cell HC.out.2
          obtain ⟨ov, o1, o2⟩ := HT.out.old hlt
          by_cases hge : p1 ≤ (k : Int)
          · have X := Lib.hid (HT.out.next hlt)
            have Y := Lib.hid (HK.out.setCell (p := ⟨B, k, none⟩) (fun e => by have := LB.out; simp only at e; omega) (.int .i64 (f k)))
            rw [HR.out k, Px.level_high hlt0 hge] at X Y
            have t12 : decide (p1 ≤ (k : Int)) = true := by simpa using hge
            clear hge
            go_wp2_with fail
            go_roundw
            case rel => exact ⟨k + 1, by omega, by go_num, X.out, Y.out⟩
            case measure => simp [intOf]; omega
          · have t12 : decide (p1 ≤ (k : Int)) = false := by simpa using hge
            by_cases hgt : p0 < (k : Int)
            · have t13 : decide (p0 < (k : Int)) = true := by simpa using hgt
              have X := Lib.hid (HT.out.drew.next hlt)
              have Y := Lib.hid (HK.out.drew.setCell (p := ⟨B, k, none⟩) (fun e => by have := LB.out; simp only at e; omega) (.int .i64 (f k)))
              rw [HR.out k, Px.level_mid hgt (by omega)] at X Y
              have hd : 0 < p1 - p0 := by omega
              have q1 : 0 ≤ (255 * ((k : Int) - p0) + (p1 - p0) / 2) / (p1 - p0) := Int.ediv_nonneg (by omega) (by omega)
              have q2 : (255 * ((k : Int) - p0) + (p1 - p0) / 2) / (p1 - p0) ≤ 255 * ((k : Int) - p0) + (p1 - p0) / 2 := Int.ediv_le_self _ (by omega)
              have nz : (p1 - p0 == 0) = false := by simp; omega
              have nz2 : ¬ p1 - p0 = 0 := by omega
              have nz3 : ¬ p1 = p0 := by omega
              have s1 : IntKind.i64.wrap ((k : Int) - p0) = (k : Int) - p0 := wrap_i64 _ (by omega) (by omega)
              have s2 : IntKind.i64.wrap (255 * ((k : Int) - p0)) = 255 * ((k : Int) - p0) := wrap_i64 _ (by omega) (by omega)
              have s3 : IntKind.i64.wrap (p1 - p0) = p1 - p0 := wrap_i64 _ (by omega) (by omega)
              have s4 : (p1 - p0).tdiv 2 = (p1 - p0) / 2 := Int.tdiv_eq_ediv_of_nonneg (by omega)
              have s5 : IntKind.i64.wrap ((p1 - p0) / 2) = (p1 - p0) / 2 := wrap_i64 _ (by omega) (by omega)
              have s6 : IntKind.i64.wrap (255 * ((k : Int) - p0) + (p1 - p0) / 2) = 255 * ((k : Int) - p0) + (p1 - p0) / 2 := wrap_i64 _ (by omega) (by omega)
              have s7 : (255 * ((k : Int) - p0) + (p1 - p0) / 2).tdiv (p1 - p0) = (255 * ((k : Int) - p0) + (p1 - p0) / 2) / (p1 - p0) := Int.tdiv_eq_ediv_of_nonneg (by omega)
              have s8 : IntKind.i64.wrap ((255 * ((k : Int) - p0) + (p1 - p0) / 2) / (p1 - p0)) = (255 * ((k : Int) - p0) + (p1 - p0) / 2) / (p1 - p0) := wrap_i64 _ (by omega) (by omega)
              clear hgt hge
              go_wp2_with fail
              go_still_tail 25, (by kernel_rfl)
              try refine wpStill_nil ?_
              change wpList _ _ _ _ _ wr.drew
              clear s1 s2 s3 s4 s5 s6 s7 s8
              go_wp2_with fail
              go_roundw
              case rel => exact ⟨k + 1, by omega, by go_num, X.out, Y.out⟩
              case measure => simp [intOf]; omega
            · have t13 : decide (p0 < (k : Int)) = false := by simpa using hgt
              have X := HT.out.skip (m := k + 1) (by omega) (fun j hj hj2 => by
                obtain rfl : j = k := by omega
                rw [HR.out j]
                exact Px.level_low hlt0 (by omega))
              rw [Nat.max_eq_right (Nat.le_succ k)] at X
              have X := Lib.hid X
              clear hgt hge
              go_wp2_with fail
              go_roundw
              case rel => exact ⟨k + 1, by omega, by go_num, X.out, HK.out⟩
              case measure => simp [intOf]; omega
        · obtain rfl : k = 256 := by omega
          go_wp2_with fail
          go_ret2
          exact ⟨B, rfl, HT.out.all, HK.out, LB.out⟩
end Go.Proofs.YtfofghakjjblfaaDoor
