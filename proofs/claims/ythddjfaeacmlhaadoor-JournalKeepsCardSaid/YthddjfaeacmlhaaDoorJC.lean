/- The contract of first: the record that bytes begin with. -/
import Derived.Test.YthddjfaeacmlhaaDoorJB
import Derived.Deep.RegionHeld3
import Derived.Deep.RegionLaw
import Derived.Deep.Cut
namespace Go.Proofs.YthddjfaeacmlhaaDoor
open Go.RowKit Jr
set_option linter.unusedVariables false

/-- What first tells: a payload in the bytes themselves. -/
def First (w : World) (ys : List Nat) (e : Ending) (w' : World) : Prop :=
  ∃ a m c, e = .returned (.tuple #[.slice a m c, .bool (head ys).isSome]) ∧ (∀ p, head ys = some p → Arg w a m c p) ∧ Below w.heap.size w w'
theorem first_small (w : World) (a : Option Addr) (n c : Nat) (ys : List Nat) (h : Arg w a n c ys) (h8 : n < 8) : Calls Tryd.prog 26 #[.slice a n c] w (First w ys) := by
  have hn : head ys = none := head_small (by have := h.len; omega)
  have X := Lib.hid (show First w ys (.returned (.tuple #[.slice none 0 0, .bool false])) w from ⟨none, 0, 0, by rw [hn]; rfl, fun p hp => (by rw [hn] at hp; cases hp), Below.refl _ _⟩)
  clear hn h
  go_enter Tryd.func26, Tryd.ntmps26
  go_wp2
  go_ret2
  exact X.out
theorem first_big (w : World) (a : Option Addr) (n c : Nat) (ys : List Nat) (h : Arg w a n c ys) (h8 : 8 ≤ n) (hg : 8388608 < numb (ys.take 4) ∨ n < numb (ys.take 4) + 8) : Calls Tryd.prog 26 #[.slice a n c] w (First w ys) := by
  have hl := h.len
  have hn : head ys = none := head_big (by omega)
  have X := Lib.hid (show First w ys (.returned (.tuple #[.slice none 0 0, .bool false])) w from ⟨none, 0, 0, by rw [hn]; rfl, fun p hp => (by rw [hn] at hp; cases hp), Below.refl _ _⟩)
  have C := Lib.hid (number_any w a n c ys h (by omega))
  have hv := numb_lt (ys.take 4) (by rw [List.length_take]; omega) (h.byte.take 4)
  generalize numb (ys.take 4) = v at *
  have t0 : decide ((n : Int) < 8) = false := by simp; omega
  clear hn h hl
  by_cases h1 : 8388608 < v
  · go_enter Tryd.func26, Tryd.ntmps26
    go_wp2_with fail
    refine C.out.mono ?_
    rintro e w1 ⟨rfl, rfl⟩
    go_wp2_with fail
    go_ret2
    exact X.out
  · have t1 : decide ((8388608 : Int) < v) = false := by simp; omega
    have t2 : decide ((n : Int) - 8 < v) = true := by simp; omega
    go_enter Tryd.func26, Tryd.ntmps26
    go_wp2_with fail
    refine C.out.mono ?_
    rintro e w1 ⟨rfl, rfl⟩
    go_wp2_with fail
    go_ret2
    exact X.out

theorem below_drew {B : Nat} {w w1 : World} (h : Below B w w1) : Below B w w1.drew := ⟨h.os, h.tape, h.output, h.size, h.block⟩
theorem w64 (n : Int) (h0 : -9223372036854775808 ≤ n) (h1 : n ≤ 9223372036854775807) : wrap64 n = n := by unfold wrap64; omega
set_option maxHeartbeats 1600000 in
theorem first_good (w : World) (b off : Nat) (n c : Nat) (ys : List Nat) (h : Arg w (some ⟨b, off, none⟩) n c ys) (h8 : 8 ≤ n) (hn : n ≤ 16777216) (v : Nat) (hv : numb (ys.take 4) = v) (h1 : v ≤ 8388608) (h2 : v + 8 ≤ n) (hF : Fours w) :
    Calls Tryd.prog 26 #[.slice (some ⟨b, off, none⟩) n c] w (First w ys) := by
  have hl := h.len
  have hnc := h.2.1
  have C := number_any w _ n c ys h (by omega)
  rw [hv] at C
  obtain ⟨E, hE⟩ : ∃ E, E = 4 + v := ⟨_, rfl⟩
  have hw : wrap64 (4 + (v : Int)) = (E : Int) := by rw [w64 _ (by omega) (by omega)]; omega
  have hd := h.drop (k := E) (by omega)
  rw [if_neg (by omega), Option.map_some, add_spot] at hd
  have ht := h.take (k := E) (by omega)
  have hp := (h.take (k := E) (by omega)).drop (k := 4) (by omega)
  rw [if_neg (by omega), Option.map_some, add_spot] at hp
  have CN := Lib.hid (fun (w' : World) (hb : Below w.heap.size w w') => number_any w' _ _ _ _ (hd.below hb) (by omega))
  have CC := Lib.hid (show Calls Tryd.prog 29 #[.slice (some ⟨w.heap.size, 0, none⟩) 1 1] (w.alloc (.cells #[.slice (some ⟨b, off, none⟩) E c] 22)).drew fun e w' => e = .returned (.int .i64 (Sums.crc (ys.take E) : Nat)) ∧ w' = (w.alloc (.cells #[.slice (some ⟨b, off, none⟩) E c] 22)).drew from
    crc_lone w.drew _ _ _ _ (by omega) (ht.below (below_drew (Below.refl _ _))) (hF.below (below_drew (Below.refl _ _))))
  have t0 : decide ((n : Int) < 8) = false := by simp; omega
  have t1 : decide ((8388608 : Int) < v) = false := by simp; omega
  have t2 : decide ((n : Int) - 8 < v) = false := by simp; omega
  have hEc : E ≤ c := by omega
  have hEn : ¬ c = E := by omega
  have hc4 : ¬ c = 4 := by omega
  have hEn2 : E ≤ n := by omega
  have hE4 : 4 ≤ E := by omega
  have hEi : (E : Int) ≤ (n : Int) := by omega
  have hEi2 : (4 : Int) ≤ (E : Int) := by omega
  have hEi3 : (E : Int) ≤ (c : Int) := by omega
  have hh := head_crc hv (by omega) h1 (by omega)
  rw [← hE] at hh
  have hpv : (ys.take E).drop 4 = (ys.drop 4).take v := by rw [List.drop_take, hE, Nat.add_sub_cancel_left]
  rw [hpv] at hp
  have hpl : E - 4 = v := by omega
  generalize numb ((ys.drop E).take 4) = q at *
  generalize Sums.crc (ys.take E) = s at *
  have X := Lib.hid (show First w ys (.returned (.tuple #[.slice (some ⟨b, off + 4, none⟩) (E - 4) (c - 4), .bool ((q : Int) == (s : Int))])) (w.alloc (.cells #[.slice (some ⟨b, off, none⟩) E c] 22)).drew from by
    have hb := below_drew ((Below.refl w.heap.size w).alloc (Nat.le_refl _) (.cells #[.slice (some ⟨b, off, none⟩) E c] 22))
    refine ⟨some ⟨b, off + 4, none⟩, E - 4, c - 4, ?_, ?_, hb⟩
    · have e : (head ys).isSome = ((q : Int) == (s : Int)) := by
        rw [hh]
        by_cases e : q = s
        · simp [e]
        · have e2 : ¬ (q : Int) = (s : Int) := by omega
          simp [e, e2]
      rw [e]
    · intro p hpp
      rw [hh] at hpp
      split at hpp
      · cases hpp; exact hp
      · cases hpp)
  clear hh hpv hpl
  have HP := Lib.hid hp
  have HF := Lib.hid hF
  have C := Lib.hid C
  have HV := Lib.hid (And.intro hv hE)
  have HS := Lib.hid (show (4 : Int) + (v : Int) = (E : Int) by omega)
  clear hd ht hp h hF hv hE hw
  go_enter Tryd.func26, Tryd.ntmps26
  go_wp2_with fail
  refine C.out.mono ?_
  rintro e w1 ⟨rfl, rfl⟩
  go_upto_region 7 with (fail)
  rw [HS.out]
  clear t0 t1 t2 h1 h2
  go_region_law (first
    | (go_simp; (with_reducible refine (CN.out _ (by first | exact Below.refl _ _ | exact below_drew (Below.refl _ _) | exact (Below.refl _ _).alloc (Nat.le_refl _) _ | exact below_drew ((Below.refl _ _).alloc (Nat.le_refl _) _))).mono ?_); rintro e w5 ⟨rfl, rfl⟩)
    | (go_simp; (with_reducible refine CC.out.mono ?_); rintro e w5 ⟨rfl, rfl⟩))
  all_goals
    go_wp2_with fail
    go_ret2
    exact X.out
theorem first_any (w : World) (a : Option Addr) (n c : Nat) (ys : List Nat) (h : Arg w a n c ys) (hn : n ≤ 16777216) (hF : Fours w) : Calls Tryd.prog 26 #[.slice a n c] w (First w ys) := by
  by_cases h8 : n < 8
  · exact first_small w a n c ys h h8
  · by_cases hg : 8388608 < numb (ys.take 4) ∨ n < numb (ys.take 4) + 8
    · exact first_big w a n c ys h (by omega) hg
    · obtain ⟨b, off, rfl, _⟩ := h.1.2.2 (by omega)
      exact first_good w b off n c ys h (by omega) hn _ rfl (by omega) (by omega) hF
end Go.Proofs.YthddjfaeacmlhaaDoor
