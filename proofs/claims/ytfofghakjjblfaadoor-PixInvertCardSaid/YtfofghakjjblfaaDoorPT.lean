/- Lists of numbers that came in; the small functions of tables. -/
import Derived.Test.YtfofghakjjblfaaDoorPS
import Derived.Test.YtfofghakjjblfaaDoorPH
namespace Go.Proofs.YtfofghakjjblfaaDoor
open Go.RowKit
set_option linter.unusedVariables false

/-- Numbers that a slice value leads to. -/
def Ints (w : World) (a : Option Addr) (n : Nat) (zs : List Int) : Prop :=
  zs.length = n ∧ (∀ z ∈ zs, -9223372036854775808 ≤ z ∧ z ≤ 9223372036854775807) ∧ (0 < n → ∃ b off, a = some ⟨b, off, none⟩ ∧ ∀ (j : Nat) (z : Int), zs[j]? = some z → w.cell? ⟨b, off + j, none⟩ = some (.int .i64 z))
theorem Ints.later {w w' : World} {a : Option Addr} {n : Nat} {zs : List Int} (h : Ints w a n zs) (k : Keeps none' w w') : Ints w' a n zs := by
  obtain ⟨h1, h2, h3⟩ := h
  refine ⟨h1, h2, fun hp => ?_⟩
  obtain ⟨b, off, e, hc⟩ := h3 hp
  exact ⟨b, off, e, fun j y hj => k.cell (hc j y hj)⟩
theorem Ints.at {w : World} {a : Option Addr} {n i : Nat} {zs : List Int} (h : Ints w a n zs) (hi : i < n) : ∃ b off, a = some ⟨b, off, none⟩ ∧ (-9223372036854775808 ≤ Px.pt zs i ∧ Px.pt zs i ≤ 9223372036854775807) ∧ w.cell? ⟨b, off + i, none⟩ = some (.int .i64 (Px.pt zs i)) := by
  obtain ⟨h1, h2, h3⟩ := h
  obtain ⟨b, off, e, hc⟩ := h3 (by omega)
  have hl : i < zs.length := by omega
  have ep : Px.pt zs i = zs[i] := by unfold Px.pt; rw [List.getD_eq_getElem?_getD, List.getElem?_eq_getElem hl]; rfl
  rw [ep]
  exact ⟨b, off, e, h2 _ (List.getElem_mem hl), hc i _ (List.getElem?_eq_getElem hl)⟩
theorem noNumber_any (z : Int) (w : World) : Calls Tryd.prog 43 #[.int .i64 z] w fun e w' => e = .returned (.bool (!decide (Px.Byte z))) ∧ w' = w := by
  by_cases h0 : z < 0
  · rw [decide_eq_false (fun h : Px.Byte z => by have := h.1; omega)]
    have t : decide (z < 0) = true := by simpa using h0
    go_enter Tryd.func43, Tryd.ntmps43
    go_wp2
    go_ret
    exact ⟨rfl, rfl⟩
  · have t : decide (z < 0) = false := by simpa using h0
    by_cases h1 : 255 < z
    · rw [decide_eq_false (fun h : Px.Byte z => by have := h.2; omega)]
      have t1 : decide (255 < z) = true := by simpa using h1
      go_enter Tryd.func43, Tryd.ntmps43
      go_wp2
      go_ret
      exact ⟨rfl, rfl⟩
    · rw [decide_eq_true (show Px.Byte z from ⟨by omega, by omega⟩)]
      have t1 : decide (255 < z) = false := by simpa using h1
      go_enter Tryd.func43, Tryd.ntmps43
      go_wp2
      go_ret
      exact ⟨rfl, rfl⟩
/-- What a search for a number that is none answers. -/
def Found (zs : List Int) (w : World) (e : Ending) (w' : World) : Prop := ∃ r : Int, e = .returned (.int .i64 r) ∧ w' = w ∧ ((r = -1 ∧ Px.Bytes zs) ∨ (0 ≤ r ∧ ¬ Px.Bytes zs))
theorem take_bytes {zs : List Int} {i : Nat} (h : ∀ j, j < i → Px.Byte (Px.pt zs j)) (hl : zs.length ≤ i) : Px.Bytes zs := by
  intro z hz
  obtain ⟨j, hj, rfl⟩ := List.getElem_of_mem hz
  have := h j (by omega)
  unfold Px.pt at this
  rwa [List.getD_eq_getElem?_getD, List.getElem?_eq_getElem hj] at this
theorem index_any (w : World) (a : Option Addr) (n c : Nat) (zs : List Int) (hn : n ≤ 16777216) (h : Ints w a n zs) : Calls Tryd.prog 48 #[.slice a n c, .func (.func 43) #[] #[]] w (Found zs w) := by
  have H := Lib.hid h
  clear h
  go_enter Tryd.func48, Tryd.ntmps48
  go_wp2_with fail
  go_loopw [8] (fun cnt wr => ∃ i : Nat, i ≤ n ∧ cnt = .int .i64 i ∧ (∀ j, j < i → Px.Byte (Px.pt zs j)) ∧ wr = w) (fun cnt _ => n - (intOf cnt).toNat)
  case atStart => exact ⟨0, Nat.zero_le _, rfl, fun j hj => absurd hj (by omega), rfl⟩
  case round =>
    obtain ⟨i, hi, rfl, hB, rfl⟩ := hrel
    have HB := Lib.hid hB
    clear hB
    by_cases hlt : i < n
    · obtain ⟨b, off, rfl, hz, hc⟩ := H.out.at hlt
      have CN := noNumber_any (Px.pt zs i) wr
      by_cases hy : Px.Byte (Px.pt zs i)
      · rw [decide_eq_true hy] at CN
        have CN := Lib.hid CN
        have HY := Lib.hid hy
        clear hy
        generalize hq : Px.pt zs i = q at *
        have HQ := Lib.hid hq
        clear hq
        go_wp2_with fail
        refine CN.out.mono ?_
        rintro e w' ⟨rfl, rfl⟩
        go_wp2_with fail
        go_roundw
        case rel => exact ⟨i + 1, by omega, by go_num, fun j hj => by
          by_cases e : j = i
          · subst e; rw [HQ.out]; exact HY.out
          · exact HB.out j (by omega), trivial⟩
        case measure => simp [intOf]; omega
      · rw [decide_eq_false hy] at CN
        have CN := Lib.hid CN
        have NB := Lib.hid (show ¬ Px.Bytes zs from fun hb => hy (Px.pt_byte hb i))
        clear hy
        generalize hq : Px.pt zs i = q at *
        clear hq
        go_wp2_with fail
        refine CN.out.mono ?_
        rintro e w' ⟨rfl, rfl⟩
        go_wp2_with fail
        go_ret
        exact ⟨_, rfl, rfl, .inr ⟨by omega, NB.out⟩⟩
    · obtain rfl : i = n := by omega
      have YB := Lib.hid (take_bytes HB.out (by rw [H.out.1]; exact Nat.le_refl _))
      go_wp2_with fail
      go_ret
      exact ⟨_, rfl, rfl, .inl ⟨rfl, YB.out⟩⟩
theorem contains_yes (w : World) (a : Option Addr) (n c : Nat) (zs : List Int) (hn : n ≤ 16777216) (h : Ints w a n zs) (hb : ¬ Px.Bytes zs) : Calls Tryd.prog 42 #[.slice a n c, .func (.func 43) #[] #[]] w fun e w' => e = .returned (.bool true) ∧ w' = w := by
  have C := Lib.hid (index_any w a n c zs hn h)
  have HB := Lib.hid hb
  clear h hb
  go_enter Tryd.func42, Tryd.ntmps42
  go_wp2_with fail
  refine C.out.mono ?_
  rintro e w' ⟨r, rfl, rfl, h⟩
  have hr : 0 ≤ r := by
    rcases h with ⟨_, h⟩ | ⟨h, _⟩
    · exact absurd h HB.out
    · exact h
  have t : decide (0 ≤ r) = true := by simpa using hr
  clear h
  go_wp2_with fail
  go_ret
  exact ⟨rfl, rfl⟩
theorem contains_no (w : World) (a : Option Addr) (n c : Nat) (zs : List Int) (hn : n ≤ 16777216) (h : Ints w a n zs) (hb : Px.Bytes zs) : Calls Tryd.prog 42 #[.slice a n c, .func (.func 43) #[] #[]] w fun e w' => e = .returned (.bool false) ∧ w' = w := by
  have C := Lib.hid (index_any w a n c zs hn h)
  have HB := Lib.hid hb
  clear h hb
  go_enter Tryd.func42, Tryd.ntmps42
  go_wp2_with fail
  refine C.out.mono ?_
  rintro e w' ⟨r, rfl, rfl, h⟩
  obtain rfl : r = -1 := by
    rcases h with ⟨h, _⟩ | ⟨_, h⟩
    · exact h
    · exact absurd HB.out h
  clear h
  go_wp2_with fail
  go_ret
  exact ⟨rfl, rfl⟩
theorem cut_any (f v : Int) (w : World) : Calls Tryd.prog 47 #[.int .i64 f, .int .i64 v] w fun e w' => e = .returned (.int .i64 (if v < f then 0 else 255)) ∧ w' = w := by
  by_cases h : v < f
  · rw [if_pos h]
    have t : decide (v < f) = true := by simpa using h
    clear h
    go_enter Tryd.func47, Tryd.ntmps47
    go_wp2
    go_ret
    exact ⟨rfl, rfl⟩
  · rw [if_neg h]
    have t : decide (v < f) = false := by simpa using h
    clear h
    go_enter Tryd.func47, Tryd.ntmps47
    go_wp2
    go_ret
    exact ⟨rfl, rfl⟩
theorem level_any (lo hi v : Int) (h0 : Px.Byte lo) (h1 : Px.Byte hi) (hv : Px.Byte v) (h : lo < hi) (w : World) : Calls Tryd.prog 45 #[.int .i64 lo, .int .i64 hi, .int .i64 v] w fun e w' => e = .returned (.int .i64 (Px.level lo hi v)) ∧ w' = w := by
  obtain ⟨a0, a1⟩ := h0
  obtain ⟨b0, b1⟩ := h1
  obtain ⟨v0, v1⟩ := hv
  have HL := Lib.hid (show Px.level lo hi v = (255 * (min (max v lo) hi - lo) + (hi - lo) / 2) / (hi - lo) from rfl)
  have m1 : (if v < lo then lo else v) = max v lo := by omega
  have m2 : (if hi < max v lo then hi else max v lo) = min (max v lo) hi := by omega
  have l0 : 0 ≤ min (max v lo) hi - lo := by omega
  have l1 : min (max v lo) hi - lo ≤ 255 := by omega
  have q0 : 0 < hi - lo := by omega
  have hq := div_facts (p := 255 * (min (max v lo) hi - lo) + (hi - lo) / 2) (q := hi - lo) (by omega)
  have q1 : 0 ≤ (255 * (min (max v lo) hi - lo) + (hi - lo) / 2) / (hi - lo) := Int.ediv_nonneg (by omega) (by omega)
  have q2 : (255 * (min (max v lo) hi - lo) + (hi - lo) / 2) / (hi - lo) ≤ 255 * (min (max v lo) hi - lo) + (hi - lo) / 2 := Int.ediv_le_self _ (by omega)
  have u0 : 0 ≤ min (max v lo) hi := by omega
  have u1 : min (max v lo) hi ≤ 255 := by omega
  clear hq
  generalize Px.level lo hi v = r at *
  generalize min (max v lo) hi = u at *
  generalize max v lo = s at *
  go_enter Tryd.func45, Tryd.ntmps45
  go_wp2
  go_ret
  exact ⟨by rw [HL.out]; rfl, rfl⟩
end Go.Proofs.YtfofghakjjblfaaDoor
