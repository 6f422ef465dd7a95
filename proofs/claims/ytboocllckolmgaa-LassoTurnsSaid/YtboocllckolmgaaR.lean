/- The document's own functions: right points, shapes, what a ray meets, what lies within, products, areas. -/
import Derived.Test.YtboocllckolmgaaF
namespace Go.Proofs.Ytboocllckolmgaa
open Go.RowKit
set_option linter.unusedVariables false

theorem w64 (n : Int) (h0 : -9223372036854775808 ≤ n) (h1 : n ≤ 9223372036854775807) : wrap64 n = n := by unfold wrap64; omega

theorem right_any (w : World) (p : Pt) : Calls Try.prog 15 #[.agg #[.int .i64 p.X, .int .i64 p.Y]] w (Says (near p) w) := by
  obtain ⟨X, Y⟩ := p
  have HB := Lib.hid (show Below w.heap.size w (w.alloc (.cells #[.int .i64 X, .int .i64 Y] 31)) from (Below.refl _ _).alloc (Nat.le_refl _) _)
  unfold near nearC
  by_cases h1 : -1048576 ≤ X
  · have u1 : decide (-1048576 ≤ X) = true := by simpa using h1
    by_cases h2 : X ≤ 1048576
    · have u2 : decide (X ≤ 1048576) = true := by simpa using h2
      by_cases h3 : -1048576 ≤ Y
      · have u3 : decide (-1048576 ≤ Y) = true := by simpa using h3
        by_cases h4 : Y ≤ 1048576
        · have u4 : decide (Y ≤ 1048576) = true := by simpa using h4
          rw [u1, u2, u3, u4]
          go_enter Try.func15, Try.ntmps15
          go_wp2_with fail
          go_ret
          exact ⟨rfl, HB.out⟩
        · have u4 : decide (Y ≤ 1048576) = false := by simpa using h4
          rw [u1, u2, u3, u4]
          go_enter Try.func15, Try.ntmps15
          go_wp2_with fail
          go_ret
          exact ⟨rfl, HB.out⟩
      · have u3 : decide (-1048576 ≤ Y) = false := by simpa using h3
        rw [u1, u2, u3, Bool.false_and]
        go_enter Try.func15, Try.ntmps15
        go_wp2_with fail
        go_ret
        exact ⟨rfl, HB.out⟩
    · have u2 : decide (X ≤ 1048576) = false := by simpa using h2
      rw [u1, u2, Bool.and_false, Bool.false_and]
      go_enter Try.func15, Try.ntmps15
      go_wp2_with fail
      go_ret
      exact ⟨rfl, HB.out⟩
  · have u1 : decide (-1048576 ≤ X) = false := by simpa using h1
    rw [u1, Bool.false_and, Bool.false_and]
    go_enter Try.func15, Try.ntmps15
    go_wp2_with fail
    go_ret
    exact ⟨rfl, HB.out⟩

set_option maxHeartbeats 800000 in
theorem docShape_any (w : World) (a : Option Addr) (n c : Nat) (ps : List Pt) (h : Pts w a n ps) (hn : n ≤ 33554432) : Calls Try.prog 14 #[.slice a n c] w (Says (shape ps) w) := by
  have HP := Lib.hid h
  clear h
  go_enter Try.func14, Try.ntmps14
  go_wp2_with fail
  go_loopw [3] (fun cnt wr => ∃ i : Nat, i ≤ n ∧ cnt = .int .i64 i ∧ (ps.take i).all near = true ∧ Below w.heap.size w wr) (fun cnt _ => n - (intOf cnt).toNat)
  case atStart => exact ⟨0, Nat.zero_le _, rfl, by simp, Below.refl _ _⟩
  case round =>
    obtain ⟨i, hi, rfl, hal, hb⟩ := hrel
    by_cases hlt : i < n
    · obtain ⟨b, off, p, rfl, hp, hfit, c0, c1⟩ := (HP.out.below hb).at hlt
      have HAL := Lib.hid hal
      have HPP := Lib.hid hp
      have HB := Lib.hid hb
      clear hal hp hfit hb
      have C1 := Lib.hid (right_any wr p)
      generalize hnx : near p = nx at C1
      have HNX := Lib.hid hnx
      clear hnx
      go_wp2_with fail
      refine C1.out.mono ?_
      rintro e w1 ⟨rfl, hb⟩
      have HB1 := Lib.hid (below_more HB.out hb (Nat.le_refl _))
      clear hb HB C1 c0 c1
      cases nx with
      | false =>
        have E := Lib.hid (show shape ps = false by unfold shape; rw [all_no HPP.out HNX.out, Bool.and_false])
        go_wp2_with fail
        go_ret
        rw [E.out]
        exact ⟨rfl, HB1.out⟩
      | true =>
        have E := Lib.hid (all_more HPP.out HAL.out HNX.out)
        go_wp2_with fail
        go_roundw
        case rel => exact ⟨i + 1, hlt, by go_num, E.out, HB1.out⟩
        case measure => simp [intOf]; omega
    · obtain rfl : i = n := by omega
      have E0 : ps.all near = true := all_take hal (by rw [HP.out.1]; exact Nat.le_refl _)
      have hl := HP.out.1
      have HB := Lib.hid hb
      clear hal hb
      by_cases h3 : 3 ≤ i
      · have u3 : decide ((3 : Int) ≤ (i : Int)) = true := by simp; omega
        by_cases h4 : i ≤ 256
        · have u4 : decide ((i : Int) ≤ 256) = true := by simp; omega
          have E := Lib.hid (show shape ps = true by unfold shape; rw [E0, hl]; simp; omega)
          clear E0 hl
          go_wp2_with fail
          go_ret
          rw [E.out]
          exact ⟨rfl, HB.out⟩
        · have u4 : decide ((i : Int) ≤ 256) = false := by simp; omega
          have E := Lib.hid (show shape ps = false by unfold shape; rw [E0, hl]; simp; omega)
          clear E0 hl
          go_wp2_with fail
          go_ret
          rw [E.out]
          exact ⟨rfl, HB.out⟩
      · have u3 : decide ((3 : Int) ≤ (i : Int)) = false := by simp; omega
        have E := Lib.hid (show shape ps = false by unfold shape; rw [E0, hl]; simp; omega)
        clear E0 hl
        go_wp2_with fail
        go_ret
        rw [E.out]
        exact ⟨rfl, HB.out⟩

/-- The document's words: does the ray from a pixel's middle meet a side? -/
def nZ (q a b : Pt) : Int := (2 * b.X - 2 * a.X) * ((2 * q.Y + 1) - 2 * a.Y) + (2 * a.X - (2 * q.X + 1)) * (2 * b.Y - 2 * a.Y)
def metR (q : Pt) (s : Pt × Pt) : Bool :=
  if q.Y < s.1.Y then (if q.Y < s.2.Y then false else decide (nZ q s.1 s.2 < 0))
  else (if q.Y < s.2.Y then decide (0 < nZ q s.1 s.2) else false)

set_option maxHeartbeats 1600000 in
theorem met_true_true (w : World) (aX aY bX bY x y : Int) (ha : near ⟨aX, aY⟩ = true) (hb : near ⟨bX, bY⟩ = true) (hq : near ⟨x, y⟩ = true) (ca : y < aY) (cb : y < bY) :
    Calls Try.prog 27 #[.agg #[.int .i64 aX, .int .i64 aY], .agg #[.int .i64 bX, .int .i64 bY], .int .i64 x, .int .i64 y] w (Says (metR ⟨x, y⟩ (⟨aX, aY⟩, ⟨bX, bY⟩)) w) := by
    have ha := near_iff.1 ha
    have hb := near_iff.1 hb
    have hq := near_iff.1 hq
    simp only at ha hb hq
    have HB := Lib.hid (show Below w.heap.size w ((w.alloc (.cells #[.int .i64 aX, .int .i64 aY] 31)).alloc (.cells #[.int .i64 bX, .int .i64 bY] 31)) from ((Below.refl _ _).alloc (Nat.le_refl _) _).alloc (by simp) _)
    obtain ⟨pa, hpa⟩ : ∃ z, z = (2 * bX - 2 * aX) * ((2 * y + 1) - 2 * aY) := ⟨_, rfl⟩
    obtain ⟨pb, hpb⟩ : ∃ z, z = (2 * aX - (2 * x + 1)) * (2 * bY - 2 * aY) := ⟨_, rfl⟩
    have hh := And.intro (mul_small (a := 2 * bX - 2 * aX) (b := (2 * y + 1) - 2 * aY) (by omega) (by omega)) (mul_small (a := 2 * aX - (2 * x + 1)) (b := 2 * bY - 2 * aY) (by omega) (by omega))
    rw [← hpa, ← hpb] at hh
    obtain ⟨nn, hn⟩ : ∃ z, z = nZ ⟨x, y⟩ ⟨aX, aY⟩ ⟨bX, bY⟩ := ⟨_, rfl⟩
    have hn2 : pa + pb = nn := by rw [hn]; unfold nZ; rw [hpa, hpb]
    have k13 : wrap64 ((2 * bX - 2 * aX) * (2 * y + 1 - 2 * aY)) = pa := by rw [← hpa]; exact w64 pa (by omega) (by omega)
    have k14 : wrap64 ((2 * aX - (2 * x + 1)) * (2 * bY - 2 * aY)) = pb := by rw [← hpb]; exact w64 pb (by omega) (by omega)
    have k15 : wrap64 (pa + pb) = nn := by rw [hn2]; exact w64 nn (by omega) (by omega)
    have u1 : decide (2 * y + 1 < 2 * aY) = true := by simp; omega
    have u2 : decide (2 * y + 1 < 2 * bY) = true := by simp; omega
    clear hn2
    have hres : metR ⟨x, y⟩ (⟨aX, aY⟩, ⟨bX, bY⟩) = false := by
      unfold metR
      rw [if_pos (show y < aY by omega), if_pos (show y < bY by omega)]
    rw [hres]
    clear hres
    clear hn hh hpa hpb
    go_enter Try.func27, Try.ntmps27
    go_wp2_with fail
    go_ret
    exact ⟨rfl, HB.out⟩

set_option maxHeartbeats 1600000 in
theorem met_true_false (w : World) (aX aY bX bY x y : Int) (ha : near ⟨aX, aY⟩ = true) (hb : near ⟨bX, bY⟩ = true) (hq : near ⟨x, y⟩ = true) (ca : y < aY) (cb : ¬ y < bY) :
    Calls Try.prog 27 #[.agg #[.int .i64 aX, .int .i64 aY], .agg #[.int .i64 bX, .int .i64 bY], .int .i64 x, .int .i64 y] w (Says (metR ⟨x, y⟩ (⟨aX, aY⟩, ⟨bX, bY⟩)) w) := by
    have ha := near_iff.1 ha
    have hb := near_iff.1 hb
    have hq := near_iff.1 hq
    simp only at ha hb hq
    have HB := Lib.hid (show Below w.heap.size w ((w.alloc (.cells #[.int .i64 aX, .int .i64 aY] 31)).alloc (.cells #[.int .i64 bX, .int .i64 bY] 31)) from ((Below.refl _ _).alloc (Nat.le_refl _) _).alloc (by simp) _)
    obtain ⟨pa, hpa⟩ : ∃ z, z = (2 * bX - 2 * aX) * ((2 * y + 1) - 2 * aY) := ⟨_, rfl⟩
    obtain ⟨pb, hpb⟩ : ∃ z, z = (2 * aX - (2 * x + 1)) * (2 * bY - 2 * aY) := ⟨_, rfl⟩
    have hh := And.intro (mul_small (a := 2 * bX - 2 * aX) (b := (2 * y + 1) - 2 * aY) (by omega) (by omega)) (mul_small (a := 2 * aX - (2 * x + 1)) (b := 2 * bY - 2 * aY) (by omega) (by omega))
    rw [← hpa, ← hpb] at hh
    obtain ⟨nn, hn⟩ : ∃ z, z = nZ ⟨x, y⟩ ⟨aX, aY⟩ ⟨bX, bY⟩ := ⟨_, rfl⟩
    have hn2 : pa + pb = nn := by rw [hn]; unfold nZ; rw [hpa, hpb]
    have k13 : wrap64 ((2 * bX - 2 * aX) * (2 * y + 1 - 2 * aY)) = pa := by rw [← hpa]; exact w64 pa (by omega) (by omega)
    have k14 : wrap64 ((2 * aX - (2 * x + 1)) * (2 * bY - 2 * aY)) = pb := by rw [← hpb]; exact w64 pb (by omega) (by omega)
    have k15 : wrap64 (pa + pb) = nn := by rw [hn2]; exact w64 nn (by omega) (by omega)
    have u1 : decide (2 * y + 1 < 2 * aY) = true := by simp; omega
    have u2 : decide (2 * y + 1 < 2 * bY) = false := by simp; omega
    clear hn2
    have ud : decide (2 * bY - 2 * aY < 0) = true := by simp; omega
    have hres : metR ⟨x, y⟩ (⟨aX, aY⟩, ⟨bX, bY⟩) = decide (nn < 0) := by
      unfold metR
      rw [if_pos (show y < aY by omega), if_neg (show ¬ y < bY by omega), ← hn]
    rw [hres]
    clear hn hh hpa hpb hres
    by_cases hq : nn < 0
    · have uq : decide (nn < 0) = true := by simpa using hq
      rw [uq]
      go_enter Try.func27, Try.ntmps27
      go_wp2_with fail
      go_ret
      exact ⟨rfl, HB.out⟩
    · have uq : decide (nn < 0) = false := by simpa using hq
      rw [uq]
      go_enter Try.func27, Try.ntmps27
      go_wp2_with fail
      go_ret
      exact ⟨rfl, HB.out⟩

set_option maxHeartbeats 1600000 in
theorem met_false_true (w : World) (aX aY bX bY x y : Int) (ha : near ⟨aX, aY⟩ = true) (hb : near ⟨bX, bY⟩ = true) (hq : near ⟨x, y⟩ = true) (ca : ¬ y < aY) (cb : y < bY) :
    Calls Try.prog 27 #[.agg #[.int .i64 aX, .int .i64 aY], .agg #[.int .i64 bX, .int .i64 bY], .int .i64 x, .int .i64 y] w (Says (metR ⟨x, y⟩ (⟨aX, aY⟩, ⟨bX, bY⟩)) w) := by
    have ha := near_iff.1 ha
    have hb := near_iff.1 hb
    have hq := near_iff.1 hq
    simp only at ha hb hq
    have HB := Lib.hid (show Below w.heap.size w ((w.alloc (.cells #[.int .i64 aX, .int .i64 aY] 31)).alloc (.cells #[.int .i64 bX, .int .i64 bY] 31)) from ((Below.refl _ _).alloc (Nat.le_refl _) _).alloc (by simp) _)
    obtain ⟨pa, hpa⟩ : ∃ z, z = (2 * bX - 2 * aX) * ((2 * y + 1) - 2 * aY) := ⟨_, rfl⟩
    obtain ⟨pb, hpb⟩ : ∃ z, z = (2 * aX - (2 * x + 1)) * (2 * bY - 2 * aY) := ⟨_, rfl⟩
    have hh := And.intro (mul_small (a := 2 * bX - 2 * aX) (b := (2 * y + 1) - 2 * aY) (by omega) (by omega)) (mul_small (a := 2 * aX - (2 * x + 1)) (b := 2 * bY - 2 * aY) (by omega) (by omega))
    rw [← hpa, ← hpb] at hh
    obtain ⟨nn, hn⟩ : ∃ z, z = nZ ⟨x, y⟩ ⟨aX, aY⟩ ⟨bX, bY⟩ := ⟨_, rfl⟩
    have hn2 : pa + pb = nn := by rw [hn]; unfold nZ; rw [hpa, hpb]
    have k13 : wrap64 ((2 * bX - 2 * aX) * (2 * y + 1 - 2 * aY)) = pa := by rw [← hpa]; exact w64 pa (by omega) (by omega)
    have k14 : wrap64 ((2 * aX - (2 * x + 1)) * (2 * bY - 2 * aY)) = pb := by rw [← hpb]; exact w64 pb (by omega) (by omega)
    have k15 : wrap64 (pa + pb) = nn := by rw [hn2]; exact w64 nn (by omega) (by omega)
    have u1 : decide (2 * y + 1 < 2 * aY) = false := by simp; omega
    have u2 : decide (2 * y + 1 < 2 * bY) = true := by simp; omega
    clear hn2
    have ud : decide (2 * bY - 2 * aY < 0) = false := by simp; omega
    have hres : metR ⟨x, y⟩ (⟨aX, aY⟩, ⟨bX, bY⟩) = decide (0 < nn) := by
      unfold metR
      rw [if_neg (show ¬ y < aY by omega), if_pos (show y < bY by omega), ← hn]
    rw [hres]
    clear hn hh hpa hpb hres
    by_cases hq : 0 < nn
    · have uq : decide (0 < nn) = true := by simpa using hq
      rw [uq]
      go_enter Try.func27, Try.ntmps27
      go_wp2_with fail
      go_ret
      exact ⟨rfl, HB.out⟩
    · have uq : decide (0 < nn) = false := by simpa using hq
      rw [uq]
      go_enter Try.func27, Try.ntmps27
      go_wp2_with fail
      go_ret
      exact ⟨rfl, HB.out⟩

set_option maxHeartbeats 1600000 in
theorem met_false_false (w : World) (aX aY bX bY x y : Int) (ha : near ⟨aX, aY⟩ = true) (hb : near ⟨bX, bY⟩ = true) (hq : near ⟨x, y⟩ = true) (ca : ¬ y < aY) (cb : ¬ y < bY) :
    Calls Try.prog 27 #[.agg #[.int .i64 aX, .int .i64 aY], .agg #[.int .i64 bX, .int .i64 bY], .int .i64 x, .int .i64 y] w (Says (metR ⟨x, y⟩ (⟨aX, aY⟩, ⟨bX, bY⟩)) w) := by
    have ha := near_iff.1 ha
    have hb := near_iff.1 hb
    have hq := near_iff.1 hq
    simp only at ha hb hq
    have HB := Lib.hid (show Below w.heap.size w ((w.alloc (.cells #[.int .i64 aX, .int .i64 aY] 31)).alloc (.cells #[.int .i64 bX, .int .i64 bY] 31)) from ((Below.refl _ _).alloc (Nat.le_refl _) _).alloc (by simp) _)
    obtain ⟨pa, hpa⟩ : ∃ z, z = (2 * bX - 2 * aX) * ((2 * y + 1) - 2 * aY) := ⟨_, rfl⟩
    obtain ⟨pb, hpb⟩ : ∃ z, z = (2 * aX - (2 * x + 1)) * (2 * bY - 2 * aY) := ⟨_, rfl⟩
    have hh := And.intro (mul_small (a := 2 * bX - 2 * aX) (b := (2 * y + 1) - 2 * aY) (by omega) (by omega)) (mul_small (a := 2 * aX - (2 * x + 1)) (b := 2 * bY - 2 * aY) (by omega) (by omega))
    rw [← hpa, ← hpb] at hh
    obtain ⟨nn, hn⟩ : ∃ z, z = nZ ⟨x, y⟩ ⟨aX, aY⟩ ⟨bX, bY⟩ := ⟨_, rfl⟩
    have hn2 : pa + pb = nn := by rw [hn]; unfold nZ; rw [hpa, hpb]
    have k13 : wrap64 ((2 * bX - 2 * aX) * (2 * y + 1 - 2 * aY)) = pa := by rw [← hpa]; exact w64 pa (by omega) (by omega)
    have k14 : wrap64 ((2 * aX - (2 * x + 1)) * (2 * bY - 2 * aY)) = pb := by rw [← hpb]; exact w64 pb (by omega) (by omega)
    have k15 : wrap64 (pa + pb) = nn := by rw [hn2]; exact w64 nn (by omega) (by omega)
    have u1 : decide (2 * y + 1 < 2 * aY) = false := by simp; omega
    have u2 : decide (2 * y + 1 < 2 * bY) = false := by simp; omega
    clear hn2
    have hres : metR ⟨x, y⟩ (⟨aX, aY⟩, ⟨bX, bY⟩) = false := by
      unfold metR
      rw [if_neg (show ¬ y < aY by omega), if_neg (show ¬ y < bY by omega)]
    rw [hres]
    clear hres
    clear hn hh hpa hpb
    go_enter Try.func27, Try.ntmps27
    go_wp2_with fail
    go_ret
    exact ⟨rfl, HB.out⟩

theorem met_any (w : World) (a b q : Pt) (ha : near a = true) (hb : near b = true) (hq : near q = true) :
    Calls Try.prog 27 #[.agg #[.int .i64 a.X, .int .i64 a.Y], .agg #[.int .i64 b.X, .int .i64 b.Y], .int .i64 q.X, .int .i64 q.Y] w (Says (metR q (a, b)) w) := by
  by_cases ca : q.Y < a.Y
  · by_cases cb : q.Y < b.Y
    · exact met_true_true w a.X a.Y b.X b.Y q.X q.Y ha hb hq ca cb
    · exact met_true_false w a.X a.Y b.X b.Y q.X q.Y ha hb hq ca cb
  · by_cases cb : q.Y < b.Y
    · exact met_false_true w a.X a.Y b.X b.Y q.X q.Y ha hb hq ca cb
    · exact met_false_false w a.X a.Y b.X b.Y q.X q.Y ha hb hq ca cb
end Go.Proofs.Ytboocllckolmgaa
