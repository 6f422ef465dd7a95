/- The contracts of Put, Fill and of the law's 'right'. -/
import Derived.Test.YteeapkbmlhlhjaaD
namespace Go.Proofs.Yteeapkbmlhlhjaa
open Go.RowKit

/-- May a number be written so? -/
def fits (v n : Int) : Bool := decide (0 ≤ n ∧ n ≤ 24 ∧ 0 ≤ v ∧ v < ((2 ^ n.toNat : Nat) : Int))
/-- The row behind a Put. -/
def put (high : Bool) (L : List Bool) (v n : Int) : List Bool := if fits v n then L ++ row high v.toNat n.toNat else L
/-- The row behind a Fill. -/
def fill (L : List Bool) (bit : Int) : List Bool := L ++ List.replicate ((8 - L.length % 8) % 8) (decide (bit % 2 = 1))

theorem Then.refl {w : World} {B P : Nat} {D : Option Nat} {high : Bool} {L : List Bool} (h : Wr w B P D high L) : Then w B P D high L w := ⟨D, h, Keeps.refl _ _, Or.inl rfl⟩

theorem put_length (high : Bool) (L : List Bool) (v n : Int) : (put high L v n).length ≤ L.length + 24 := by
  unfold put
  split
  · rename_i h
    simp only [fits, decide_eq_true_eq] at h
    rw [List.length_append, row_length]
    omega
  · omega

theorem put_no (w : World) (P : Nat) (v n : Int) (h : n < 0 ∨ 24 < n ∨ v < 0) :
    Calls Try.prog 11 #[.pointer (some ⟨P, 0, none⟩), .int .i64 v, .int .i64 n] w fun e w' => e = .returned (.bool false) ∧ w = w' := by
  by_cases c0 : n < 0
  · have t0 : decide (n < 0) = true := by simpa using c0
    go_enter Try.func11, Try.ntmps11
    go_wp2
    go_ret
    exact ⟨rfl, rfl⟩
  · have t0 : decide (n < 0) = false := by simpa using c0
    by_cases c1 : 24 < n
    · have t1 : decide (24 < n) = true := by simpa using c1
      go_enter Try.func11, Try.ntmps11
      go_wp2
      go_ret
      exact ⟨rfl, rfl⟩
    · have t1 : decide (24 < n) = false := by simpa using c1
      have c2 : v < 0 := by omega
      have t2 : decide (v < 0) = true := by simpa using c2
      go_enter Try.func11, Try.ntmps11
      go_wp2
      go_ret
      exact ⟨rfl, rfl⟩

theorem put_big (w : World) (P : Nat) (v n : Nat) (hn : n ≤ 24) (h : 2 ^ n ≤ v) :
    Calls Try.prog 11 #[.pointer (some ⟨P, 0, none⟩), .int .i64 v, .int .i64 n] w fun e w' => e = .returned (.bool false) ∧ w = w' := by
  have CM := Lib.hid (mask_any w n (by omega))
  have hp : 0 < 2 ^ n := Nat.two_pow_pos n
  have t3 : decide (2 ^ n - 1 < v) = true := by simp only [decide_eq_true_eq]; omega
  generalize 2 ^ n - 1 = p at *
  clear h hp
  go_enter Try.func11, Try.ntmps11
  go_wp2_with fail
  refine CM.out.mono ?_
  rintro e w' ⟨rfl, rfl⟩
  go_wp2_with fail
  go_ret
  exact ⟨rfl, rfl⟩

theorem put_yes (w : World) (B P : Nat) (D : Option Nat) (high : Bool) (L : List Bool) (h : Wr w B P D high L) (hB : B ≤ w.heap.size) (hl : L.length ≤ 16777216) (v n : Nat) (hn : n ≤ 24) (hv : v < 2 ^ n) :
    Calls Try.prog 11 #[.pointer (some ⟨P, 0, none⟩), .int .i64 v, .int .i64 n] w fun e w' => e = .returned (.bool true) ∧ Then w B P D high (L ++ row high v n) w' := by
  have CM := Lib.hid (mask_any w n (by omega))
  obtain ⟨a, c, h0, h1, h2, h3, hf, hown, hd⟩ := Raw.open h
  have t3 : decide (2 ^ n - 1 < v) = false := by simp only [decide_eq_false_iff_not]; omega
  cases high
  · have CP := Lib.hid (putLow_any w B P D L h hB hl v n hn hv)
    generalize 2 ^ n - 1 = p at *
    clear h h1 h2 h3 hf hown hd hv
    go_enter Try.func11, Try.ntmps11
    go_wp2_with fail
    refine CM.out.mono ?_
    rintro e w' ⟨rfl, rfl⟩
    go_wp2_with fail
    refine CP.out.mono ?_
    rintro e w' ⟨rfl, hp⟩
    go_wp2_with fail
    go_ret
    exact ⟨rfl, hp⟩
  · have CP := Lib.hid (putHigh_any w B P D L h hB hl v n hn hv)
    generalize 2 ^ n - 1 = p at *
    clear h h1 h2 h3 hf hown hd hv
    go_enter Try.func11, Try.ntmps11
    go_wp2_with fail
    refine CM.out.mono ?_
    rintro e w' ⟨rfl, rfl⟩
    go_wp2_with fail
    refine CP.out.mono ?_
    rintro e w' ⟨rfl, hp⟩
    go_wp2_with fail
    go_ret
    exact ⟨rfl, hp⟩

theorem put_any (w : World) (B P : Nat) (D : Option Nat) (high : Bool) (L : List Bool) (h : Wr w B P D high L) (hB : B ≤ w.heap.size) (hl : L.length ≤ 16777216) (v n : Int) :
    Calls Try.prog 11 #[.pointer (some ⟨P, 0, none⟩), .int .i64 v, .int .i64 n] w fun e w' => e = .returned (.bool (fits v n)) ∧ Then w B P D high (put high L v n) w' := by
  by_cases c0 : n < 0 ∨ 24 < n ∨ v < 0
  · have e1 : fits v n = false := by simp only [fits, decide_eq_false_iff_not]; omega
    have e2 : put high L v n = L := by simp [put, e1]
    rw [e1, e2]
    exact (put_no w P v n c0).mono (fun e w' ⟨h1, h2⟩ => ⟨h1, h2 ▸ Then.refl h⟩)
  · obtain ⟨V, rfl⟩ := Int.eq_ofNat_of_zero_le (show 0 ≤ v by omega)
    obtain ⟨N, rfl⟩ := Int.eq_ofNat_of_zero_le (show 0 ≤ n by omega)
    by_cases c1 : V < 2 ^ N
    · have e1 : fits V N = true := by simp only [fits, decide_eq_true_eq, Int.toNat_natCast]; omega
      have e2 : put high L V N = L ++ row high V N := by simp [put, e1]
      rw [e1, e2]
      exact put_yes w B P D high L h hB hl V N (by omega) c1
    · have e1 : fits V N = false := by simp only [fits, decide_eq_false_iff_not, Int.toNat_natCast]; omega
      have e2 : put high L V N = L := by simp [put, e1]
      rw [e1, e2]
      exact (put_big w P V N (by omega) (by omega)).mono (fun e w' ⟨h1, h2⟩ => ⟨h1, h2 ▸ Then.refl h⟩)

theorem lowr_zero (n : Nat) : lowr 0 n = List.replicate n false := by
  induction n with
  | zero => rfl
  | succ n ih => simp [lowr, ih, List.replicate_succ]
theorem lowr_ones (n : Nat) : lowr (2 ^ n - 1) n = List.replicate n true := by
  induction n with
  | zero => rfl
  | succ n ih =>
    have hp : 0 < 2 ^ n := Nat.two_pow_pos n
    have e1 : (2 ^ (n + 1) - 1) % 2 = 1 := by rw [Nat.pow_succ]; omega
    have e2 : (2 ^ (n + 1) - 1) / 2 = 2 ^ n - 1 := by rw [Nat.pow_succ]; omega
    simp [lowr, e1, e2, ih, List.replicate_succ]
theorem row_zero (high : Bool) (n : Nat) : row high 0 n = List.replicate n false := by
  cases high <;> simp [row, lowr_zero]
theorem row_ones (high : Bool) (n : Nat) : row high (2 ^ n - 1) n = List.replicate n true := by
  cases high <;> simp [row, lowr_ones]

theorem fill_any (w : World) (B P : Nat) (D : Option Nat) (high : Bool) (L : List Bool) (h : Wr w B P D high L) (hB : B ≤ w.heap.size) (hl : L.length ≤ 16777216) (bit : Int) (hb0 : -9223372036854775808 ≤ bit) (hb1 : bit ≤ 9223372036854775807) :
    Calls Try.prog 10 #[.pointer (some ⟨P, 0, none⟩), .int .i64 bit] w fun e w' => e = .returned (.tuple #[]) ∧ Then w B P D high (fill L bit) w' := by
  obtain ⟨a, c, h0, h1, h2, h3, hf, hown, hd⟩ := Raw.open h
  obtain ⟨u, hu⟩ : ∃ u, u = L.length % 8 := ⟨_, rfl⟩
  rw [← hu] at h3
  by_cases hz : u = 0
  · subst hz
    have e1 : fill L bit = L := by simp [fill, ← hu]
    rw [e1]
    have X := Lib.hid (Then.refl h)
    clear h h0 h1 h2 hf hown hd hu
    go_enter Try.func10, Try.ntmps10
    go_wp2
    (try simp only [Exit.inBlock, Exit.then])
    refine bodyPost_ret (results_none rfl _ _ _) rfl ?_
    exact ⟨rfl, X.out⟩
  · obtain ⟨l, hl8⟩ : ∃ l, l = 8 - u := ⟨_, rfl⟩
    have hu8 : u < 8 := by omega
    have CM := Lib.hid (mask_any w l (by omega))
    have e0 : (8 : Int) - (u : Int) = (l : Int) := by omega
    have hp : 0 < 2 ^ l := Nat.two_pow_pos l
    have hp2 : 2 ^ l ≤ 2 ^ 8 := Nat.pow_le_pow_right (by omega) (by omega)
    have e4 : fill L bit = L ++ List.replicate l (decide (bit % 2 = 1)) := by
      unfold fill; rw [← hu, show (8 - u) % 8 = l by omega]
    have CP : Calls Try.prog 11 #[.pointer (some ⟨P, 0, none⟩), .int .i64 (bits .and .i64 bit 1 * ((2 ^ l - 1 : Nat) : Int)), .int .i64 l] w fun e w' => e = .returned (.bool true) ∧ Then w B P D high (fill L bit) w' := by
      rw [i64_one bit hb0 hb1, e4]
      rcases (show bit % 2 = 0 ∨ bit % 2 = 1 by omega) with e | e
      · rw [e, Int.zero_mul]
        have k := put_yes w B P D high L h hB hl 0 l (by omega) hp
        rw [row_zero] at k
        simpa using k
      · rw [e, Int.one_mul]
        have k := put_yes w B P D high L h hB hl (2 ^ l - 1) l (by omega) (by omega)
        rw [row_ones] at k
        simpa using k
    have hbit : 0 ≤ bits .and .i64 bit 1 ∧ bits .and .i64 bit 1 ≤ 1 := by rw [i64_one bit hb0 hb1]; omega
    have hz2 : wrap64 (bits .and .i64 bit 1 * ((2 ^ l - 1 : Nat) : Int)) = bits .and .i64 bit 1 * ((2 ^ l - 1 : Nat) : Int) := by
      generalize bits .and .i64 bit 1 = z at *
      rcases (show z = 0 ∨ z = 1 by omega) with e | e
      · rw [e]; simp; exact IntWalk.wrap64_in 0 (by omega)
      · rw [e]; simp only [Int.one_mul]; exact IntWalk.wrap64_in _ (by omega)
    have CP := Lib.hid CP
    have HZ := Lib.hid hz2
    clear h h0 h1 h2 hf hown hd e4 hz2 hu hl8
    generalize 2 ^ l - 1 = p at *
    have hzu : ((u : Int) == 0) = false := by simp; omega
    go_enter Try.func10, Try.ntmps10
    go_wp2_with fail
    refine CM.out.mono ?_
    rintro e w' ⟨rfl, rfl⟩
    go_wp2_with fail
    rw [HZ.out]
    refine CP.out.mono ?_
    rintro e w' ⟨rfl, hp⟩
    go_wp2_with fail
    go_end0
    exact ⟨rfl, hp⟩

theorem right_any (w : World) (v n : Int) (F : Bool) :
    Calls Try.prog 12 #[.agg #[.int .i64 v, .int .i64 n, .bool F]] w fun e w' => e = .returned (.bool (fits v n)) ∧ ∃ q, w' = (w.alloc (.cells #[.int .i64 v, .int .i64 n, .bool F] 27)).drewN q := by
  by_cases c0 : n < 0
  · have e1 : fits v n = false := by simp only [fits, decide_eq_false_iff_not]; omega
    have t0 : decide (0 ≤ n) = false := by simp; omega
    rw [e1]
    go_enter Try.func12, Try.ntmps12
    go_wp2
    go_quiet (fail)
    go_wp2
    go_ret
    exact ⟨rfl, _, rfl⟩
  have t0 : decide (0 ≤ n) = true := by simp; omega
  by_cases c1 : 24 < n
  · have e1 : fits v n = false := by simp only [fits, decide_eq_false_iff_not]; omega
    have t1 : decide (n ≤ 24) = false := by simp; omega
    rw [e1]
    go_enter Try.func12, Try.ntmps12
    go_wp2
    go_quiet (fail)
    go_wp2
    go_ret
    exact ⟨rfl, _, rfl⟩
  have t1 : decide (n ≤ 24) = true := by simp; omega
  by_cases c2 : v < 0
  · have e1 : fits v n = false := by simp only [fits, decide_eq_false_iff_not]; omega
    have t2 : decide (0 ≤ v) = false := by simp; omega
    rw [e1]
    go_enter Try.func12, Try.ntmps12
    go_wp2
    go_quiet (fail)
    go_wp2
    go_ret
    exact ⟨rfl, _, rfl⟩
  have t2 : decide (0 ≤ v) = true := by simp; omega
  obtain ⟨N, rfl⟩ := Int.eq_ofNat_of_zero_le (show 0 ≤ n by omega)
  have hN : N ≤ 24 := by omega
  have e1 : fits v N = decide (v < wrap64 (2 ^ N)) := by
    have hp : 2 ^ N ≤ 2 ^ 24 := Nat.pow_le_pow_right (by omega) hN
    rw [two_pow_cast]
    simp only [fits, Int.toNat_natCast]
    rw [decide_eq_decide]
    generalize 2 ^ N = p at *
    rw [IntWalk.wrap64_in _ (by omega)]
    omega
  rw [e1]
  clear e1
  go_enter Try.func12, Try.ntmps12
  go_wp2
  go_quiet (fail)
  go_wp2
  go_ret
  exact ⟨rfl, _, rfl⟩
end Go.Proofs.Yteeapkbmlhlhjaa
