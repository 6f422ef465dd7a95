/- Tables, by the document. -/
import Derived.Test.YtfofghakjjblfaaDoorPUe
namespace Go.Proofs.YtfofghakjjblfaaDoor
open Go.RowKit
set_option linter.unusedVariables false

/-- The first k of 256 numbers in a block, the others nought. -/
def TblZ (w : World) (B k : Nat) (f : Int → Int) : Prop := ∃ cs : Array Value, w.heap[B]? = some (.cells cs 3 (0, 0)) ∧ cs.size = 256 ∧ (∀ j : Nat, j < k → cs[j]? = some (.int .i64 (f j))) ∧ ∀ j : Nat, k ≤ j → j < 256 → cs[j]? = some (.int .i64 0)
theorem TblZ.later {w w' : World} {B k : Nat} {f : Int → Int} (h : TblZ w B k f) (hk : Keeps none' w w') : TblZ w' B k f := by
  obtain ⟨cs, h1, h2, h3, h4⟩ := h
  exact ⟨cs, (hk.later B (lt_of_block h1)).trans h1, h2, h3, h4⟩
theorem TblZ.drew {w : World} {B k : Nat} {f : Int → Int} (h : TblZ w B k f) : TblZ w.drew B k f := h
theorem TblZ.old {w : World} {B k i : Nat} {f : Int → Int} (h : TblZ w B k f) (hi : i < 256) : ∃ v, w.cell? ⟨B, i, none⟩ = some v ∧ w.frozen? ⟨B, i, none⟩ = false := by
  obtain ⟨cs, h1, h2, h3, h4⟩ := h
  exact ⟨cs[i]'(by omega), by rw [cell_of_row _ _ _ _ _ _ h1, Array.getElem?_eq_getElem (by omega)], frozen_of_row _ _ _ _ _ h1⟩
theorem TblZ.next {w : World} {B k : Nat} {f : Int → Int} (h : TblZ w B k f) (hk : k < 256) : TblZ (w.setCell ⟨B, k, none⟩ (.int .i64 (f k))) B (k + 1) f := by
  obtain ⟨cs, h1, h2, h3, h4⟩ := h
  refine ⟨_, block_set h1 _, by simpa using h2, fun j hj => ?_, fun j hj hl => ?_⟩
  · by_cases e : j = k
    · subst e; rw [Array.getElem?_setIfInBounds_self_of_lt (by omega)]
    · rw [Array.getElem?_setIfInBounds_ne (fun x => e x.symm)]; exact h3 j (by omega)
  · rw [Array.getElem?_setIfInBounds_ne (by omega)]; exact h4 j (by omega) hl
theorem TblZ.skip {w : World} {B k m : Nat} {f : Int → Int} (h : TblZ w B k f) (hm : m ≤ 256) (hf : ∀ j : Nat, k ≤ j → j < m → f j = 0) : TblZ w B (max k m) f := by
  obtain ⟨cs, h1, h2, h3, h4⟩ := h
  refine ⟨cs, h1, h2, fun j hj => ?_, fun j hj hl => h4 j (by omega) hl⟩
  by_cases e : j < k
  · exact h3 j e
  · rw [h4 j (by omega) (by omega), hf j (by omega) (by omega)]
theorem TblZ.all {w : World} {B : Nat} {f : Int → Int} (h : TblZ w B 256 f) : TblTo w B 256 f := by
  obtain ⟨cs, h1, h2, h3, h4⟩ := h
  exact ⟨cs, h1, h2, h3⟩
theorem madeCells_at (z : Value) (n j : Nat) (h : j < n) : (madeCells #[z] n)[j]? = some z := by
  rw [← Array.getElem?_toList, toList_madeCells_one, List.getElem?_replicate, if_pos h]
theorem tblZ_new (w : World) (f : Int → Int) : TblZ (w.alloc (.cells (madeCells #[.int .i64 0] 256) 3)) w.heap.size 0 f :=
  ⟨_, heap_alloc_new _ _, size_madeCells _ _, fun j hj => absurd hj (by omega), fun j _ hl => madeCells_at _ _ _ hl⟩
/-- It is no table. -/
def DocNo (w : World) (e : Ending) (w' : World) : Prop := ∃ a l c, e = .returned (.tuple #[.slice a l c, .bool false]) ∧ Keeps none' w w'

set_option maxRecDepth 100000 in
set_option maxHeartbeats 1600000 in
theorem docTable_bad (w : World) (a : Option Addr) (n c : Nat) (zs : List Int) (hn : n ≤ 16777216) (h : Ints w a n zs) (kind : Int) (hB : ¬ Px.Bytes zs) : Calls Tryd.prog 24 #[.int .i64 kind, .slice a n c] w (DocNo w) := by
  have H := Lib.hid h
  clear h
  have HB := Lib.hid hB
  clear hB
  have hmk := make256
  go_enter Tryd.func24, Tryd.ntmps24
  go_wp2_with fail
  go_loopw [7] (fun cnt wr => ∃ i : Nat, i ≤ n ∧ cnt = .int .i64 i ∧ (∀ j, j < i → Px.Byte (Px.pt zs j)) ∧ wr = w) (fun cnt _ => n - (intOf cnt).toNat)
  case atStart => exact ⟨0, Nat.zero_le _, rfl, fun j hj => absurd hj (by omega), rfl⟩
  case round =>
    obtain ⟨i, hi, rfl, hA, rfl⟩ := hrel
    have HA := Lib.hid hA
    clear hA
    by_cases hlt : i < n
    · obtain ⟨b, off, rfl, hz, hc⟩ := H.out.at hlt
      clear hmk
      by_cases h0 : Px.pt zs i < 0
      · have NB := Lib.hid (show ¬ Px.Bytes zs from fun hb => by have := (Px.pt_byte hb i).1; omega)
        have t : decide (Px.pt zs i < 0) = true := by simpa using h0
        clear h0
        generalize Px.pt zs i = q at *
        go_wp2_with fail; go_ret2; exact ⟨_, _, _, rfl, Keeps.refl _ _⟩
      · by_cases h1 : 255 < Px.pt zs i
        · have NB := Lib.hid (show ¬ Px.Bytes zs from fun hb => by have := (Px.pt_byte hb i).2; omega)
          have t : decide (Px.pt zs i < 0) = false := by simpa using h0
          have t2 : decide (255 < Px.pt zs i) = true := by simpa using h1
          clear h0 h1
          generalize Px.pt zs i = q at *
          go_wp2_with fail; go_ret2; exact ⟨_, _, _, rfl, Keeps.refl _ _⟩
        · have t : decide (Px.pt zs i < 0) = false := by simpa using h0
          have t2 : decide (255 < Px.pt zs i) = false := by simpa using h1
          have HY := Lib.hid (show Px.Byte (Px.pt zs i) from ⟨by omega, by omega⟩)
          clear h0 h1
          generalize hq : Px.pt zs i = q at *
          have HQ := Lib.hid hq
          clear hq
          go_wp2_with fail
          go_roundw
          case rel => exact ⟨i + 1, by omega, by go_num, fun j hj => by
            by_cases e : j = i
            · subst e; rw [HQ.out]; exact HY.out
            · exact HA.out j (by omega), trivial⟩
          case measure => simp [intOf]; omega
    · obtain rfl : i = n := by omega
      clear hlt hi
      exact absurd (take_bytes HA.out (by rw [H.out.1]; exact Nat.le_refl _)) HB.out
set_option maxRecDepth 100000 in
set_option maxHeartbeats 1600000 in
theorem docTable_other (w : World) (a : Option Addr) (n c : Nat) (zs : List Int) (hn : n ≤ 16777216) (h : Ints w a n zs) (kind : Int) (hB : Px.Bytes zs) (hk : ¬ (0 ≤ kind ∧ kind ≤ 3)) : Calls Tryd.prog 24 #[.int .i64 kind, .slice a n c] w (DocNo w) := by
  have H := Lib.hid h
  clear h
  have HB := Lib.hid hB
  clear hB
  have t0 : (kind == 0) = false := by simp; omega
  have t1 : (kind == 1) = false := by simp; omega
  have t2 : (kind == 2) = false := by simp; omega
  have t3 : (kind == 3) = false := by simp; omega
  clear hk
  have hmk := make256
  go_enter Tryd.func24, Tryd.ntmps24
  go_wp2_with fail
  go_loopw [7] (fun cnt wr => ∃ i : Nat, i ≤ n ∧ cnt = .int .i64 i ∧ (∀ j, j < i → Px.Byte (Px.pt zs j)) ∧ wr = w) (fun cnt _ => n - (intOf cnt).toNat)
  case atStart => exact ⟨0, Nat.zero_le _, rfl, fun j hj => absurd hj (by omega), rfl⟩
  case round =>
    obtain ⟨i, hi, rfl, hA, rfl⟩ := hrel
    have HA := Lib.hid hA
    clear hA
    by_cases hlt : i < n
    · obtain ⟨b, off, rfl, hz, hc⟩ := H.out.at hlt
      clear hmk
      by_cases h0 : Px.pt zs i < 0
      · have NB := Lib.hid (show ¬ Px.Bytes zs from fun hb => by have := (Px.pt_byte hb i).1; omega)
        have t : decide (Px.pt zs i < 0) = true := by simpa using h0
        clear h0
        generalize Px.pt zs i = q at *
        exact absurd HB.out NB.out
      · by_cases h1 : 255 < Px.pt zs i
        · have NB := Lib.hid (show ¬ Px.Bytes zs from fun hb => by have := (Px.pt_byte hb i).2; omega)
          have t : decide (Px.pt zs i < 0) = false := by simpa using h0
          have t2 : decide (255 < Px.pt zs i) = true := by simpa using h1
          clear h0 h1
          generalize Px.pt zs i = q at *
          exact absurd HB.out NB.out
        · have t : decide (Px.pt zs i < 0) = false := by simpa using h0
          have t2 : decide (255 < Px.pt zs i) = false := by simpa using h1
          have HY := Lib.hid (show Px.Byte (Px.pt zs i) from ⟨by omega, by omega⟩)
          clear h0 h1
          generalize hq : Px.pt zs i = q at *
          have HQ := Lib.hid hq
          clear hq
          go_wp2_with fail
          go_roundw
          case rel => exact ⟨i + 1, by omega, by go_num, fun j hj => by
            by_cases e : j = i
            · subst e; rw [HQ.out]; exact HY.out
            · exact HA.out j (by omega), trivial⟩
          case measure => simp [intOf]; omega
    · obtain rfl : i = n := by omega
      clear hlt hi
      go_wp2_with fail
      go_ret2
      exact ⟨_, _, _, rfl, (Keeps.refl _ _).alloc _⟩
set_option maxRecDepth 100000 in
set_option maxHeartbeats 1600000 in
theorem docTable_invert (w : World) (a : Option Addr) (n c : Nat) (zs : List Int) (hn : n ≤ 16777216) (h : Ints w a n zs) (hB : Px.Bytes zs) (h0 : n = 0) : Calls Tryd.prog 24 #[.int .i64 2, .slice a n c] w (Tabled w (Px.repl 2 zs)) := by
  have H := Lib.hid h
  clear h
  have HB := Lib.hid hB
  clear hB
  have t9 : ((n : Int) == 0) = true := by simp; omega
  clear h0
  have hmk := make256
  go_enter Tryd.func24, Tryd.ntmps24
  go_wp2_with fail
  go_loopw [7] (fun cnt wr => ∃ i : Nat, i ≤ n ∧ cnt = .int .i64 i ∧ (∀ j, j < i → Px.Byte (Px.pt zs j)) ∧ wr = w) (fun cnt _ => n - (intOf cnt).toNat)
  case atStart => exact ⟨0, Nat.zero_le _, rfl, fun j hj => absurd hj (by omega), rfl⟩
  case round =>
    obtain ⟨i, hi, rfl, hA, rfl⟩ := hrel
    have HA := Lib.hid hA
    clear hA
    by_cases hlt : i < n
    · obtain ⟨b, off, rfl, hz, hc⟩ := H.out.at hlt
      clear hmk
      by_cases h0 : Px.pt zs i < 0
      · have NB := Lib.hid (show ¬ Px.Bytes zs from fun hb => by have := (Px.pt_byte hb i).1; omega)
        have t : decide (Px.pt zs i < 0) = true := by simpa using h0
        clear h0
        generalize Px.pt zs i = q at *
        exact absurd HB.out NB.out
      · by_cases h1 : 255 < Px.pt zs i
        · have NB := Lib.hid (show ¬ Px.Bytes zs from fun hb => by have := (Px.pt_byte hb i).2; omega)
          have t : decide (Px.pt zs i < 0) = false := by simpa using h0
          have t2 : decide (255 < Px.pt zs i) = true := by simpa using h1
          clear h0 h1
          generalize Px.pt zs i = q at *
          exact absurd HB.out NB.out
        · have t : decide (Px.pt zs i < 0) = false := by simpa using h0
          have t2 : decide (255 < Px.pt zs i) = false := by simpa using h1
          have HY := Lib.hid (show Px.Byte (Px.pt zs i) from ⟨by omega, by omega⟩)
          clear h0 h1
          generalize hq : Px.pt zs i = q at *
          have HQ := Lib.hid hq
          clear hq
          go_wp2_with fail
          go_roundw
          case rel => exact ⟨i + 1, by omega, by go_num, fun j hj => by
            by_cases e : j = i
            · subst e; rw [HQ.out]; exact HY.out
            · exact HA.out j (by omega), trivial⟩
          case measure => simp [intOf]; omega
    · obtain rfl : i = n := by omega
      clear hlt hi
      obtain ⟨wo, rfl⟩ : ∃ wo : World, wo = wr := ⟨_, rfl⟩
      have T0 := Lib.hid (tblZ_new wo (Px.repl 2 zs))
      have K0 := Lib.hid ((Keeps.refl none' wo).alloc (.cells (madeCells #[.int .i64 0] 256) 3))
      go_wp2_with fail
      obtain ⟨B, hB⟩ : ∃ B, B = wo.heap.size := ⟨_, rfl⟩
      obtain ⟨w1, hw1⟩ : ∃ w1, w1 = wo.alloc (.cells (madeCells #[.int .i64 0] 256) 3) := ⟨_, rfl⟩
      rw [← hw1] at T0 K0
      rw [← hB] at T0
      rw [← hw1, ← hB]
      have LB := Lib.hid (show wo.heap.size ≤ B by omega)
      clear hw1 hB hmk
      go_loopw [12] (fun cnt wl => ∃ k : Nat, k ≤ 256 ∧ cnt = .int .i64 k ∧ TblZ wl B k (Px.repl 2 zs) ∧ Keeps none' wo wl) (fun cnt _ => 256 - (intOf cnt).toNat)
      case atStart => exact ⟨0, by omega, rfl, T0.out, K0.out⟩
      case round =>
        obtain ⟨k, hk, rfl, hT, hK⟩ := hrel
        have HT := Lib.hid hT
        have HK := Lib.hid hK
        clear hT hK
        by_cases hlt : k < 256
        · have hki : (k : Int) < 256 := by omega
          have X := Lib.hid (HT.out.next hlt)
          have Y := Lib.hid (HK.out.setCell (p := ⟨B, k, none⟩) (fun e => by have := LB.out; simp only at e; omega) (.int .i64 (Px.repl 2 zs k)))
          rw [show Px.repl 2 zs k = 255 - (k : Int) from rfl] at X Y
          obtain ⟨ov, o1, o2⟩ := HT.out.old hlt
          go_wp2_with fail
          go_roundw
          case rel => exact ⟨k + 1, by omega, by go_num, X.out, Y.out⟩
          case measure => simp [intOf]; omega
        · obtain rfl : k = 256 := by omega
          go_wp2_with fail
          go_ret2
          exact ⟨B, rfl, HT.out.all, HK.out, LB.out⟩
set_option maxRecDepth 100000 in
set_option maxHeartbeats 1600000 in
theorem docTable_invert_no (w : World) (a : Option Addr) (n c : Nat) (zs : List Int) (hn : n ≤ 16777216) (h : Ints w a n zs) (hB : Px.Bytes zs) (h0 : n ≠ 0) : Calls Tryd.prog 24 #[.int .i64 2, .slice a n c] w (DocNo w) := by
  have H := Lib.hid h
  clear h
  have HB := Lib.hid hB
  clear hB
  have t9 : ((n : Int) == 0) = false := by simp; omega
  clear h0
  have hmk := make256
  go_enter Tryd.func24, Tryd.ntmps24
  go_wp2_with fail
  go_loopw [7] (fun cnt wr => ∃ i : Nat, i ≤ n ∧ cnt = .int .i64 i ∧ (∀ j, j < i → Px.Byte (Px.pt zs j)) ∧ wr = w) (fun cnt _ => n - (intOf cnt).toNat)
  case atStart => exact ⟨0, Nat.zero_le _, rfl, fun j hj => absurd hj (by omega), rfl⟩
  case round =>
    obtain ⟨i, hi, rfl, hA, rfl⟩ := hrel
    have HA := Lib.hid hA
    clear hA
    by_cases hlt : i < n
    · obtain ⟨b, off, rfl, hz, hc⟩ := H.out.at hlt
      clear hmk
      by_cases h0 : Px.pt zs i < 0
      · have NB := Lib.hid (show ¬ Px.Bytes zs from fun hb => by have := (Px.pt_byte hb i).1; omega)
        have t : decide (Px.pt zs i < 0) = true := by simpa using h0
        clear h0
        generalize Px.pt zs i = q at *
        exact absurd HB.out NB.out
      · by_cases h1 : 255 < Px.pt zs i
        · have NB := Lib.hid (show ¬ Px.Bytes zs from fun hb => by have := (Px.pt_byte hb i).2; omega)
          have t : decide (Px.pt zs i < 0) = false := by simpa using h0
          have t2 : decide (255 < Px.pt zs i) = true := by simpa using h1
          clear h0 h1
          generalize Px.pt zs i = q at *
          exact absurd HB.out NB.out
        · have t : decide (Px.pt zs i < 0) = false := by simpa using h0
          have t2 : decide (255 < Px.pt zs i) = false := by simpa using h1
          have HY := Lib.hid (show Px.Byte (Px.pt zs i) from ⟨by omega, by omega⟩)
          clear h0 h1
          generalize hq : Px.pt zs i = q at *
          have HQ := Lib.hid hq
          clear hq
          go_wp2_with fail
          go_roundw
          case rel => exact ⟨i + 1, by omega, by go_num, fun j hj => by
            by_cases e : j = i
            · subst e; rw [HQ.out]; exact HY.out
            · exact HA.out j (by omega), trivial⟩
          case measure => simp [intOf]; omega
    · obtain rfl : i = n := by omega
      clear hlt hi
      obtain ⟨wo, rfl⟩ : ∃ wo : World, wo = wr := ⟨_, rfl⟩
      have T0 := Lib.hid (tblZ_new wo (Px.repl 2 zs))
      have K0 := Lib.hid ((Keeps.refl none' wo).alloc (.cells (madeCells #[.int .i64 0] 256) 3))
      go_wp2_with fail
      obtain ⟨B, hB⟩ : ∃ B, B = wo.heap.size := ⟨_, rfl⟩
      obtain ⟨w1, hw1⟩ : ∃ w1, w1 = wo.alloc (.cells (madeCells #[.int .i64 0] 256) 3) := ⟨_, rfl⟩
      rw [← hw1] at T0 K0
      rw [← hB] at T0
      rw [← hw1, ← hB]
      have LB := Lib.hid (show wo.heap.size ≤ B by omega)
      clear hw1 hB hmk
      go_loopw [12] (fun cnt wl => ∃ k : Nat, k ≤ 256 ∧ cnt = .int .i64 k ∧ TblZ wl B k (Px.repl 2 zs) ∧ Keeps none' wo wl) (fun cnt _ => 256 - (intOf cnt).toNat)
      case atStart => exact ⟨0, by omega, rfl, T0.out, K0.out⟩
      case round =>
        obtain ⟨k, hk, rfl, hT, hK⟩ := hrel
        have HT := Lib.hid hT
        have HK := Lib.hid hK
        clear hT hK
        by_cases hlt : k < 256
        · have hki : (k : Int) < 256 := by omega
          have X := Lib.hid (HT.out.next hlt)
          have Y := Lib.hid (HK.out.setCell (p := ⟨B, k, none⟩) (fun e => by have := LB.out; simp only at e; omega) (.int .i64 (Px.repl 2 zs k)))
          rw [show Px.repl 2 zs k = 255 - (k : Int) from rfl] at X Y
          obtain ⟨ov, o1, o2⟩ := HT.out.old hlt
          go_wp2_with fail
          go_roundw
          case rel => exact ⟨k + 1, by omega, by go_num, X.out, Y.out⟩
          case measure => simp [intOf]; omega
        · obtain rfl : k = 256 := by omega
          go_wp2_with fail
          go_ret2
          exact ⟨_, _, _, rfl, HK.out⟩
set_option maxRecDepth 100000 in
set_option maxHeartbeats 1600000 in
theorem docTable_threshold (w : World) (a : Option Addr) (n c : Nat) (zs : List Int) (hn : n ≤ 16777216) (h : Ints w a n zs) (hB : Px.Bytes zs) (h0 : n = 1) : Calls Tryd.prog 24 #[.int .i64 3, .slice a n c] w (Tabled w (Px.repl 3 zs)) := by
  have H := Lib.hid h
  clear h
  have HB := Lib.hid hB
  clear hB
  have t9 : ((n : Int) == 1) = true := by simp; omega
  have t10 : ((n : Int) != 1) = false := by simp; omega
  have hn0 : 0 < n := by omega
  clear h0
  have hmk := make256
  go_enter Tryd.func24, Tryd.ntmps24
  go_wp2_with fail
  go_loopw [7] (fun cnt wr => ∃ i : Nat, i ≤ n ∧ cnt = .int .i64 i ∧ (∀ j, j < i → Px.Byte (Px.pt zs j)) ∧ wr = w) (fun cnt _ => n - (intOf cnt).toNat)
  case atStart => exact ⟨0, Nat.zero_le _, rfl, fun j hj => absurd hj (by omega), rfl⟩
  case round =>
    obtain ⟨i, hi, rfl, hA, rfl⟩ := hrel
    have HA := Lib.hid hA
    clear hA
    by_cases hlt : i < n
    · obtain ⟨b, off, rfl, hz, hc⟩ := H.out.at hlt
      clear hmk
      by_cases h0 : Px.pt zs i < 0
      · have NB := Lib.hid (show ¬ Px.Bytes zs from fun hb => by have := (Px.pt_byte hb i).1; omega)
        have t : decide (Px.pt zs i < 0) = true := by simpa using h0
        clear h0
        generalize Px.pt zs i = q at *
        exact absurd HB.out NB.out
      · by_cases h1 : 255 < Px.pt zs i
        · have NB := Lib.hid (show ¬ Px.Bytes zs from fun hb => by have := (Px.pt_byte hb i).2; omega)
          have t : decide (Px.pt zs i < 0) = false := by simpa using h0
          have t2 : decide (255 < Px.pt zs i) = true := by simpa using h1
          clear h0 h1
          generalize Px.pt zs i = q at *
          exact absurd HB.out NB.out
        · have t : decide (Px.pt zs i < 0) = false := by simpa using h0
          have t2 : decide (255 < Px.pt zs i) = false := by simpa using h1
          have HY := Lib.hid (show Px.Byte (Px.pt zs i) from ⟨by omega, by omega⟩)
          clear h0 h1
          generalize hq : Px.pt zs i = q at *
          have HQ := Lib.hid hq
          clear hq
          go_wp2_with fail
          go_roundw
          case rel => exact ⟨i + 1, by omega, by go_num, fun j hj => by
            by_cases e : j = i
            · subst e; rw [HQ.out]; exact HY.out
            · exact HA.out j (by omega), trivial⟩
          case measure => simp [intOf]; omega
    · obtain rfl : i = n := by omega
      clear hlt hi
      obtain ⟨wo, rfl⟩ : ∃ wo : World, wo = wr := ⟨_, rfl⟩
      obtain ⟨b, off, rfl, -, hc0⟩ := H.out.at (i := 0) (by omega)
      rw [Nat.add_zero] at hc0
      obtain ⟨p, hp⟩ : ∃ p : Nat, Px.pt zs 0 = (p : Int) := ⟨(Px.pt zs 0).toNat, by have := (Px.pt_byte HB.out 0).1; omega⟩
      have hp255 : p ≤ 255 := by have := (Px.pt_byte HB.out 0).2; omega
      rw [hp] at hc0
      have hc0 := ((Keeps.refl none' wo).alloc (.cells (madeCells #[.int .i64 0] 256) 3)).cell hc0
      have HPP := Lib.hid hp
      clear hp
      have T0 := Lib.hid (tblZ_new wo (Px.repl 3 zs))
      have K0 := Lib.hid ((Keeps.refl none' wo).alloc (.cells (madeCells #[.int .i64 0] 256) 3))
      go_wp2_with fail
      obtain ⟨B, hB⟩ : ∃ B, B = wo.heap.size := ⟨_, rfl⟩
      obtain ⟨w1, hw1⟩ : ∃ w1, w1 = wo.alloc (.cells (madeCells #[.int .i64 0] 256) 3) := ⟨_, rfl⟩
      rw [← hw1] at T0 K0
      rw [← hB] at T0
      rw [← hw1, ← hB]
      have LB := Lib.hid (show wo.heap.size ≤ B by omega)
      clear hw1 hB hmk
      go_loopw [13] (fun cnt wl => ∃ k : Nat, p ≤ k ∧ k ≤ 256 ∧ cnt = .int .i64 k ∧ TblZ wl B k (Px.repl 3 zs) ∧ Keeps none' wo wl) (fun cnt _ => 256 - (intOf cnt).toNat)
      case atStart => exact ⟨p, Nat.le_refl _, by omega, rfl, by
        have := T0.out.skip (m := p) (by omega) (fun j _ hj => by show (if (j : Int) < Px.pt zs 0 then 0 else 255) = 0; rw [HPP.out, if_pos (by omega)])
        rwa [Nat.zero_max] at this, K0.out⟩
      case round =>
        obtain ⟨k, hpk, hk, rfl, hT, hK⟩ := hrel
        have HGE := Lib.hid (show Px.pt zs 0 ≤ (k : Int) by rw [HPP.out]; omega)
        have HT := Lib.hid hT
        have HK := Lib.hid hK
        clear hT hK
        by_cases hlt : k < 256
        · have hki : (k : Int) < 256 := by omega
          have hge : ¬ (k : Int) < Px.pt zs 0 := by have := HGE.out; omega
          have X := Lib.hid (HT.out.next hlt)
          have Y := Lib.hid (HK.out.setCell (p := ⟨B, k, none⟩) (fun e => by have := LB.out; simp only at e; omega) (.int .i64 (Px.repl 3 zs k)))
          rw [show Px.repl 3 zs k = (if (k : Int) < Px.pt zs 0 then 0 else 255) from rfl, if_neg hge] at X Y
          obtain ⟨ov, o1, o2⟩ := HT.out.old hlt
          clear hge
          go_wp2_with fail
          go_roundw
          case rel => exact ⟨k + 1, by omega, by omega, by go_num, X.out, Y.out⟩
          case measure => simp [intOf]; omega
        · obtain rfl : k = 256 := by omega
          go_wp2_with fail
          go_ret2
          exact ⟨B, rfl, HT.out.all, HK.out, LB.out⟩
set_option maxRecDepth 100000 in
set_option maxHeartbeats 1600000 in
theorem docTable_threshold_no (w : World) (a : Option Addr) (n c : Nat) (zs : List Int) (hn : n ≤ 16777216) (h : Ints w a n zs) (hB : Px.Bytes zs) (h0 : n ≠ 1) : Calls Tryd.prog 24 #[.int .i64 3, .slice a n c] w (DocNo w) := by
  have H := Lib.hid h
  clear h
  have HB := Lib.hid hB
  clear hB
  have t9 : ((n : Int) == 1) = false := by simp; omega
  have t10 : ((n : Int) != 1) = true := by simp; omega
  clear h0
  have hmk := make256
  go_enter Tryd.func24, Tryd.ntmps24
  go_wp2_with fail
  go_loopw [7] (fun cnt wr => ∃ i : Nat, i ≤ n ∧ cnt = .int .i64 i ∧ (∀ j, j < i → Px.Byte (Px.pt zs j)) ∧ wr = w) (fun cnt _ => n - (intOf cnt).toNat)
  case atStart => exact ⟨0, Nat.zero_le _, rfl, fun j hj => absurd hj (by omega), rfl⟩
  case round =>
    obtain ⟨i, hi, rfl, hA, rfl⟩ := hrel
    have HA := Lib.hid hA
    clear hA
    by_cases hlt : i < n
    · obtain ⟨b, off, rfl, hz, hc⟩ := H.out.at hlt
      clear hmk
      by_cases h0 : Px.pt zs i < 0
      · have NB := Lib.hid (show ¬ Px.Bytes zs from fun hb => by have := (Px.pt_byte hb i).1; omega)
        have t : decide (Px.pt zs i < 0) = true := by simpa using h0
        clear h0
        generalize Px.pt zs i = q at *
        exact absurd HB.out NB.out
      · by_cases h1 : 255 < Px.pt zs i
        · have NB := Lib.hid (show ¬ Px.Bytes zs from fun hb => by have := (Px.pt_byte hb i).2; omega)
          have t : decide (Px.pt zs i < 0) = false := by simpa using h0
          have t2 : decide (255 < Px.pt zs i) = true := by simpa using h1
          clear h0 h1
          generalize Px.pt zs i = q at *
          exact absurd HB.out NB.out
        · have t : decide (Px.pt zs i < 0) = false := by simpa using h0
          have t2 : decide (255 < Px.pt zs i) = false := by simpa using h1
          have HY := Lib.hid (show Px.Byte (Px.pt zs i) from ⟨by omega, by omega⟩)
          clear h0 h1
          generalize hq : Px.pt zs i = q at *
          have HQ := Lib.hid hq
          clear hq
          go_wp2_with fail
          go_roundw
          case rel => exact ⟨i + 1, by omega, by go_num, fun j hj => by
            by_cases e : j = i
            · subst e; rw [HQ.out]; exact HY.out
            · exact HA.out j (by omega), trivial⟩
          case measure => simp [intOf]; omega
    · obtain rfl : i = n := by omega
      clear hlt hi
      go_wp2_with fail
      go_ret2
      exact ⟨_, _, _, rfl, (Keeps.refl _ _).alloc _⟩
end Go.Proofs.YtfofghakjjblfaaDoor
