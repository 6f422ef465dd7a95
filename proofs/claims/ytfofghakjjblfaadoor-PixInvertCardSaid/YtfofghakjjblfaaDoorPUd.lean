/- Which params make a table; what it has. -/
import Derived.Test.YtfofghakjjblfaaDoorPUc
namespace Go.Proofs.YtfofghakjjblfaaDoor
open Go.RowKit
set_option linter.unusedVariables false

theorem onCurve_any (w : World) (a : Option Addr) (n c : Nat) (zs : List Int) (hnc : n ≤ c) (h : Ints w a n zs) (hp : Px.Points zs) (hb : Px.Bytes zs) (v : Int) (hv : Px.Byte v) :
    Calls Tryd.prog 46 #[.slice a n c, .int .i64 v] w fun e w' => e = .returned (.int .i64 (Px.curve zs v)) ∧ Keeps none' w w' :=
  (onCurve_told w a n c zs hnc h hp hb v hv).mono (fun _ _ ⟨r, h1, h2, h3⟩ => ⟨by rw [Px.curve_eq hp h1]; exact h2, h3⟩)
theorem docCurve_any (w : World) (a : Option Addr) (n c : Nat) (zs : List Int) (hnc : n ≤ c) (h : Ints w a n zs) (hp : Px.Points zs) (hb : Px.Bytes zs) (v : Int) (hv : Px.Byte v) :
    Calls Tryd.prog 35 #[.slice a n c, .int .i64 v] w fun e w' => e = .returned (.int .i64 (Px.curve zs v)) ∧ Keeps none' w w' :=
  (docCurve_told w a n c zs hnc h hp hb v hv).mono (fun _ _ ⟨r, h1, h2, h3⟩ => ⟨by rw [Px.curve_eq hp h1]; exact h2, h3⟩)
theorem points_no (w : World) (a : Option Addr) (n c : Nat) (hn : n ≤ 16777216) (h : n < 2 ∨ 32 < n ∨ n % 2 ≠ 0) : Calls Tryd.prog 44 #[.slice a n c] w fun e w' => e = .returned (.bool false) ∧ w' = w := by
  by_cases h0 : n < 2
  · have t1 : decide ((n : Int) < 2) = true := by simp; omega
    go_enter Tryd.func44, Tryd.ntmps44
    go_wp2_with fail
    go_ret
    exact ⟨rfl, rfl⟩
  · have t1 : decide ((n : Int) < 2) = false := by simp; omega
    by_cases h1 : 32 < n
    · have t2 : decide ((32 : Int) < n) = true := by simp; omega
      clear h
      go_enter Tryd.func44, Tryd.ntmps44
      go_wp2_with fail
      go_ret
      exact ⟨rfl, rfl⟩
    · have t2 : decide ((32 : Int) < n) = false := by simp; omega
      have t3 : (n : Int) % 2 = 1 := by omega
      clear h h0 h1
      go_enter Tryd.func44, Tryd.ntmps44
      go_wp2_with fail
      go_ret
      exact ⟨rfl, rfl⟩
theorem fits_bad (w : World) (a : Option Addr) (n c : Nat) (zs : List Int) (hn : n ≤ 16777216) (h : Ints w a n zs) (kind : Int) (hb : ¬ Px.Bytes zs) : Calls Tryd.prog 33 #[.int .i64 kind, .slice a n c] w fun e w' => e = .returned (.bool false) ∧ Keeps none' w w' := by
  have C := Lib.hid (contains_yes w a n c zs hn h hb)
  clear h hb
  go_enter Tryd.func33, Tryd.ntmps33
  go_wp2_with fail
  refine C.out.mono ?_
  rintro e w' ⟨rfl, rfl⟩
  go_wp2_with fail
  go_ret
  exact ⟨rfl, Keeps.refl _ _⟩
theorem fits_levels_no (w : World) (a : Option Addr) (n c : Nat) (zs : List Int) (hn : n ≤ 16777216) (h : Ints w a n zs) (hb : Px.Bytes zs) (h2 : n ≠ 2) : Calls Tryd.prog 33 #[.int .i64 0, .slice a n c] w fun e w' => e = .returned (.bool false) ∧ Keeps none' w w' := by
  have C := Lib.hid (contains_no w a n c zs hn h hb)
  have t : ((n : Int) == 2) = false := by simp; omega
  clear h hb
  go_enter Tryd.func33, Tryd.ntmps33
  go_wp2_with fail
  refine C.out.mono ?_
  rintro e w' ⟨rfl, rfl⟩
  go_wp2_with fail
  go_quiet (fail)
  go_wp2_with fail
  go_ret
  exact ⟨rfl, (Keeps.refl _ _).drewN _⟩
theorem fits_levels (w : World) (a : Option Addr) (n c : Nat) (zs : List Int) (hn : n ≤ 16777216) (h : Ints w a n zs) (hb : Px.Bytes zs) (h2 : n = 2) : Calls Tryd.prog 33 #[.int .i64 0, .slice a n c] w fun e w' => e = .returned (.bool (decide (Px.pt zs 0 < Px.pt zs 1))) ∧ Keeps none' w w' := by
  subst h2
  have C := Lib.hid (contains_no w a 2 c zs hn h hb)
  obtain ⟨b, off, rfl, -, hc0⟩ := h.at (i := 0) (by omega)
  obtain ⟨b', off', e', -, hc1⟩ := h.at (i := 1) (by omega)
  cases e'
  rw [Nat.add_zero] at hc0
  clear h hb
  generalize Px.pt zs 0 = p0 at *
  generalize Px.pt zs 1 = p1 at *
  go_enter Tryd.func33, Tryd.ntmps33
  go_wp2_with fail
  refine C.out.mono ?_
  rintro e w' ⟨rfl, rfl⟩
  go_wp2_with fail
  go_quiet (fail)
  go_wp2_with fail
  go_ret
  exact ⟨rfl, (Keeps.refl _ _).drewN _⟩
theorem fits_points (w : World) (a : Option Addr) (n c : Nat) (zs : List Int) (hn : n ≤ 16777216) (h : Ints w a n zs) (hb : Px.Bytes zs) (b : Bool) (hbp : b = true ↔ Px.Points zs) : Calls Tryd.prog 33 #[.int .i64 1, .slice a n c] w fun e w' => e = .returned (.bool b) ∧ Keeps none' w w' := by
  have C := Lib.hid (contains_no w a n c zs hn h hb)
  have D : Calls Tryd.prog 44 #[.slice a n c] w fun e w' => e = .returned (.bool b) ∧ ∃ q, w' = w.drewN q := by
    by_cases hq : n < 2 ∨ 32 < n ∨ n % 2 ≠ 0
    · have hf : b = false := by
        cases hb2 : b
        · rfl
        · have := hbp.1 hb2
          have e := h.1
          exact absurd hq (by have a1 := this.1; have a2 := this.2.1; have a3 := this.2.2.1; omega)
      rw [hf]
      exact (points_no w a n c hn hq).mono (fun _ _ ⟨h1, h2⟩ => ⟨h1, 0, h2⟩)
    · exact points_any w a n c zs hn h hq b hbp
  have D := Lib.hid D
  clear h hb hbp
  go_enter Tryd.func33, Tryd.ntmps33
  go_wp2_with fail
  refine C.out.mono ?_
  rintro e w' ⟨rfl, rfl⟩
  go_wp2_with fail
  refine D.out.mono ?_
  rintro e w2 ⟨rfl, q, rfl⟩
  go_wp2_with fail
  go_ret
  exact ⟨rfl, (Keeps.refl _ _).drewN _⟩
theorem fits_invert (w : World) (a : Option Addr) (n c : Nat) (zs : List Int) (hn : n ≤ 16777216) (h : Ints w a n zs) (hb : Px.Bytes zs) : Calls Tryd.prog 33 #[.int .i64 2, .slice a n c] w fun e w' => e = .returned (.bool (decide (n = 0))) ∧ Keeps none' w w' := by
  have C := Lib.hid (contains_no w a n c zs hn h hb)
  clear h hb
  by_cases h0 : n = 0
  · subst h0
    go_enter Tryd.func33, Tryd.ntmps33
    go_wp2_with fail
    refine C.out.mono ?_
    rintro e w' ⟨rfl, rfl⟩
    go_wp2_with fail
    go_ret
    exact ⟨rfl, Keeps.refl _ _⟩
  · rw [decide_eq_false h0]
    have t : ((n : Int) == 0) = false := by simp; omega
    go_enter Tryd.func33, Tryd.ntmps33
    go_wp2_with fail
    refine C.out.mono ?_
    rintro e w' ⟨rfl, rfl⟩
    go_wp2_with fail
    go_ret
    exact ⟨rfl, Keeps.refl _ _⟩
theorem fits_threshold (w : World) (a : Option Addr) (n c : Nat) (zs : List Int) (hn : n ≤ 16777216) (h : Ints w a n zs) (hb : Px.Bytes zs) : Calls Tryd.prog 33 #[.int .i64 3, .slice a n c] w fun e w' => e = .returned (.bool (decide (n = 1))) ∧ Keeps none' w w' := by
  have C := Lib.hid (contains_no w a n c zs hn h hb)
  clear h hb
  by_cases h0 : n = 1
  · subst h0
    go_enter Tryd.func33, Tryd.ntmps33
    go_wp2_with fail
    refine C.out.mono ?_
    rintro e w' ⟨rfl, rfl⟩
    go_wp2_with fail
    go_ret
    exact ⟨rfl, Keeps.refl _ _⟩
  · rw [decide_eq_false h0]
    have t : ((n : Int) == 1) = false := by simp; omega
    go_enter Tryd.func33, Tryd.ntmps33
    go_wp2_with fail
    refine C.out.mono ?_
    rintro e w' ⟨rfl, rfl⟩
    go_wp2_with fail
    go_ret
    exact ⟨rfl, Keeps.refl _ _⟩
theorem fits_other (w : World) (a : Option Addr) (n c : Nat) (zs : List Int) (hn : n ≤ 16777216) (h : Ints w a n zs) (kind : Int) (hk : ¬ (0 ≤ kind ∧ kind ≤ 3)) (hb : Px.Bytes zs) : Calls Tryd.prog 33 #[.int .i64 kind, .slice a n c] w fun e w' => e = .returned (.bool false) ∧ Keeps none' w w' := by
  have C := Lib.hid (contains_no w a n c zs hn h hb)
  have t0 : (kind == 0) = false := by simp; omega
  have t1 : (kind == 1) = false := by simp; omega
  have t2 : (kind == 2) = false := by simp; omega
  have t3 : (kind == 3) = false := by simp; omega
  clear h hb hk
  go_enter Tryd.func33, Tryd.ntmps33
  go_wp2_with fail
  refine C.out.mono ?_
  rintro e w' ⟨rfl, rfl⟩
  go_wp2_with fail
  go_ret
  exact ⟨rfl, Keeps.refl _ _⟩
theorem fits_any (w : World) (a : Option Addr) (n c : Nat) (zs : List Int) (hn : n ≤ 16777216) (h : Ints w a n zs) (kind : Int) (b : Bool) (hb : b = true ↔ Px.Fits kind zs) : Calls Tryd.prog 33 #[.int .i64 kind, .slice a n c] w fun e w' => e = .returned (.bool b) ∧ Keeps none' w w' := by
  have hl := h.1
  by_cases hB : Px.Bytes zs
  · by_cases hk : 0 ≤ kind ∧ kind ≤ 3
    · have hc : kind = 0 ∨ kind = 1 ∨ kind = 2 ∨ kind = 3 := by omega
      rcases hc with rfl | rfl | rfl | rfl
      · by_cases h2 : n = 2
        · have e : decide (Px.pt zs 0 < Px.pt zs 1) = b := by
            rw [Bool.eq_iff_iff, hb, decide_eq_true_iff]
            exact ⟨fun hh => ⟨hB, .inl ⟨rfl, by omega, hh⟩⟩, fun ⟨_, hh⟩ => by rcases hh with ⟨_, _, h⟩ | ⟨h, _⟩ | ⟨h, _⟩ | ⟨h, _⟩ <;> first | exact h | (cases h)⟩
          rw [← e]
          exact fits_levels w a n c zs hn h hB h2
        · have e : b = false := by
            cases hb2 : b
            · rfl
            · obtain ⟨_, ⟨_, q, _⟩ | ⟨q, _⟩ | ⟨q, _⟩ | ⟨q, _⟩⟩ := hb.1 hb2
              · omega
              all_goals cases q
          rw [e]
          exact fits_levels_no w a n c zs hn h hB h2
      · exact fits_points w a n c zs hn h hB b (hb.trans ⟨fun ⟨_, hh⟩ => by rcases hh with ⟨q, _⟩ | ⟨_, q⟩ | ⟨q, _⟩ | ⟨q, _⟩ <;> first | exact q | (cases q), fun q => ⟨hB, .inr (.inl ⟨rfl, q⟩)⟩⟩)
      · have e : decide (n = 0) = b := by
          rw [Bool.eq_iff_iff, hb, decide_eq_true_iff]
          exact ⟨fun hh => ⟨hB, .inr (.inr (.inl ⟨rfl, by omega⟩))⟩, fun ⟨_, hh⟩ => by rcases hh with ⟨q, _⟩ | ⟨q, _⟩ | ⟨_, q⟩ | ⟨q, _⟩ <;> first | omega | (cases q)⟩
        rw [← e]
        exact fits_invert w a n c zs hn h hB
      · have e : decide (n = 1) = b := by
          rw [Bool.eq_iff_iff, hb, decide_eq_true_iff]
          exact ⟨fun hh => ⟨hB, .inr (.inr (.inr ⟨rfl, by omega⟩))⟩, fun ⟨_, hh⟩ => by rcases hh with ⟨q, _⟩ | ⟨q, _⟩ | ⟨q, _⟩ | ⟨_, q⟩ <;> first | omega | (cases q)⟩
        rw [← e]
        exact fits_threshold w a n c zs hn h hB
    · have e : b = false := by
        cases hb2 : b
        · rfl
        · obtain ⟨_, ⟨q, _⟩ | ⟨q, _⟩ | ⟨q, _⟩ | ⟨q, _⟩⟩ := hb.1 hb2 <;> omega
      rw [e]
      exact fits_other w a n c zs hn h kind hk hB
  · have e : b = false := by
      cases hb2 : b
      · rfl
      · exact absurd (hb.1 hb2).1 hB
    rw [e]
    exact fits_bad w a n c zs hn h kind hB
end Go.Proofs.YtfofghakjjblfaaDoor
