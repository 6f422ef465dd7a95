/- Equal maps; the map that does nothing; the anchor. (printed by genLA.py) -/
import Derived.Test.YtfcndldobjpbnaaZ
namespace Go.Proofs.Ytfcndldobjpbnaa
open Go.RowKit Go.Maps
set_option linter.unusedVariables false

set_option maxHeartbeats 1600000 in
theorem eq23 (a b c d e f a' b' c' d' e' f' : Int) (w : World) : (Op.equalIn 10000 23 (.agg #[.int .i64 a, .int .i64 b, .int .i64 c, .int .i64 d, .int .i64 e, .int .i64 f]) (.agg #[.int .i64 a', .int .i64 b', .int .i64 c', .int .i64 d', .int .i64 e', .int .i64 f'])).run Try.prog w = .ok (a == a' && b == b' && c == c' && d == d' && e == e' && f == f') w := by
  have u3 := Try.underlying3
  have a3 := Try.isAgg3
  have z3 := Try.sizeOf3
  rw [show (10000 : Nat) = 9999 + 1 from rfl, Op.equalIn]
  simp only [Sem.run_bind, run_underlying Try.underlying23, Result.andThen_ok]
  simp only [Std.Legacy.Range.forIn_eq_forIn_range', Std.Legacy.Range.size, Nat.sub_zero, Nat.add_sub_cancel, Nat.div_one, List.range'_succ, List.range'_zero, List.forIn_cons, List.forIn_nil]
  go_simp
  by_cases h1 : a = a' <;> by_cases h2 : b = b' <;> by_cases h3 : c = c' <;> by_cases h4 : d = d' <;> by_cases h5 : e = e' <;> by_cases h6 : f = f' <;> simp [h1, h2, h3, h4, h5, h6]
theorem eq23_self (m : Af.M) (w : World) : (Op.equalIn 10000 23 (.agg #[.int .i64 m.a, .int .i64 m.b, .int .i64 m.c, .int .i64 m.d, .int .i64 m.e, .int .i64 m.f]) (.agg #[.int .i64 m.a, .int .i64 m.b, .int .i64 m.c, .int .i64 m.d, .int .i64 m.e, .int .i64 m.f])).run Try.prog w = .ok true w := by
  rw [eq23]; simp
/-- A law's end: true, and the old memory as it was. -/
def Yes (w : World) (e : Ending) (w' : World) : Prop := e = .returned (.bool true) ∧ Keeps none' w w'
theorem Yes.below {w w' : World} {e : Ending} (h : Yes w e w') : e = .returned (.bool true) ∧ Below w.heap.size w w' := ⟨h.1, h.2.below (Nat.le_refl _) (fun _ _ h => h)⟩
theorem one_any (w : World) : Calls Try.prog 17 #[] w fun e w' => e = .returned (.agg #[.int .i64 65536, .int .i64 0, .int .i64 0, .int .i64 65536, .int .i64 0, .int .i64 0]) ∧ Keeps none' w w' := by
  go_enter Try.func17, Try.ntmps17
  go_wp2_with fail
  refine bodyPost_ret (results_cell_row rfl _ _ w.heap.size 23 #[.int .i64 65536, .int .i64 0, .int .i64 0, .int .i64 65536, .int .i64 0, .int .i64 0] (0, 0) _ rfl (heap_alloc_new _ _) Try.underlying23 rfl (by kernel_rfl)) rfl ?_
  exact ⟨rfl, keeps_alloc rfl⟩
theorem see_no (W H : Int) (a : Option Addr) (n c : Nat) (zs : List Int) (m : Af.M) (pw ph : Int) (s : Bool) (w : World) (hz : Ints w a n zs) (hn : n ≤ 16777216) (he : Af.seeE W H zs m pw ph ≠ 0) :
    Calls Try.prog 22 #[.agg #[.int .i64 W, .int .i64 H, .slice a n c], .agg #[.int .i64 m.a, .int .i64 m.b, .int .i64 m.c, .int .i64 m.d, .int .i64 m.e, .int .i64 m.f], .int .i64 pw, .int .i64 ph, .bool s] w (SeeNo (Af.seeE W H zs m pw ph) w) := by
  unfold Af.seeE at *
  by_cases h1 : (Af.backE m).2 = 0
  · rw [if_neg (by omega)] at *
    by_cases h2 : Af.sizeOk pw ph
    · rw [if_neg (fun h => h h2)] at *
      by_cases h3 : PicOk W H zs
      · rw [if_neg (fun h => h h3)] at he
        exact absurd rfl he
      · rw [if_pos h3]
        exact seeP_form W H a n c zs m pw ph s w h1 h2 hz hn h3
    · rw [if_pos h2]
      exact seeP_size W H a n c zs m pw ph s w h1 h2
  · rw [if_pos h1]
    exact seeP_flat W H a n c zs m pw ph s w h1
theorem seeE_ok {W H : Int} {zs : List Int} {m : Af.M} {pw ph : Int} (he : Af.seeE W H zs m pw ph = 0) : (Af.backE m).2 = 0 ∧ Af.sizeOk pw ph ∧ PicOk W H zs := by
  unfold Af.seeE at he
  by_cases h1 : (Af.backE m).2 = 0
  · rw [if_neg (by omega)] at he
    by_cases h2 : Af.sizeOk pw ph
    · rw [if_neg (fun h => h h2)] at he
      by_cases h3 : PicOk W H zs
      · exact ⟨h1, h2, h3⟩
      · rw [if_pos h3] at he
        exact absurd he (by decide)
    · rw [if_pos h2] at he
      exact absurd he (by decide)
  · rw [if_pos h1] at he
    exact absurd he h1
theorem seeE_zero {W H : Int} {zs : List Int} {m : Af.M} {pw ph : Int} (h1 : (Af.backE m).2 = 0) (h2 : Af.sizeOk pw ph) (h3 : PicOk W H zs) : Af.seeE W H zs m pw ph = 0 := by
  unfold Af.seeE
  rw [if_neg (by omega), if_neg (fun h => h h2), if_neg (fun h => h h3)]
theorem see_ok (W H : Int) (a : Option Addr) (n c : Nat) (zs : List Int) (m : Af.M) (pw ph : Int) (s : Bool) (w : World) (hz : Ints w a n zs) (hn : n ≤ 16777216) (he : Af.seeE W H zs m pw ph = 0) :
    Calls Try.prog 22 #[.agg #[.int .i64 W, .int .i64 H, .slice a n c], .agg #[.int .i64 m.a, .int .i64 m.b, .int .i64 m.c, .int .i64 m.d, .int .i64 m.e, .int .i64 m.f], .int .i64 pw, .int .i64 ph, .bool s] w (SeeOk pw ph (pw.toNat * ph.toNat) (Af.seenTo W H zs (Af.backE m).1 s pw.toNat (pw.toNat * ph.toNat)) w) := by
  obtain ⟨h1, h2, h3⟩ := seeE_ok he
  exact seeP_good W H a n c zs m pw ph s w h1 h2 hz hn h3
def exBack : Af.M := ⟨131072, 0, 0, 65536, 0, 0⟩
def exMap : Af.M := ⟨65536, 0, 0, 65536, 131072, 0⟩
theorem ex_back : Af.backE exBack = (⟨32768, 0, 0, 65536, 0, 0⟩, 0) := by decide +kernel
theorem ex_see : Af.seeE 1 1 [7] exMap 3 1 = 0 := by decide +kernel
theorem ex_seen : Af.seenTo 1 1 [7] (Af.backE exMap).1 false 3 3 = [0, 0, 7] := by decide +kernel
set_option maxHeartbeats 1600000 in
theorem anchor_any (w : World) : Calls Try.prog 12 #[] w (Yes w) := by
  have BK := Lib.hid (back_any exBack w)
  rw [ex_back] at BK
  have EQ := fun w => eq23_self ⟨32768, 0, 0, 65536, 0, 0⟩ w
  simp only at EQ
  go_enter Try.func12, Try.ntmps12
  go_wp2_with fail
  refine BK.out.mono ?_
  rintro e w1 ⟨rfl, hk⟩
  have K1 := Lib.hid (hk.alloc (.cells #[.int .i64 32768, .int .i64 0, .int .i64 0, .int .i64 65536, .int .i64 0, .int .i64 0] 23))
  have B1 := Lib.hid (Six.new w1 23 ⟨32768, 0, 0, 65536, 0, 0⟩)
  clear hk BK
  go_upto_region 2 with (fail)
  generalize w1.alloc (.cells #[.int .i64 32768, .int .i64 0, .int .i64 0, .int .i64 65536, .int .i64 0, .int .i64 0] 23) = w2 at *
  generalize w1.heap.size = D at *
  have I0 := one_ints w2 7 (by omega)
  have SE := Lib.hid (see_ok 1 1 (some ⟨w2.heap.size, 0, none⟩) 1 1 [7] exMap 3 1 false _ I0 (by omega) ex_see)
  rw [show (3 : Int).toNat * (1 : Int).toNat = 3 from rfl, show (3 : Int).toNat = 3 from rfl, ex_seen] at SE
  have K2 := Lib.hid (K1.out.alloc (.cells #[.int .i64 7] 3))
  have B2 := Lib.hid (B1.out.alloc (.cells #[.int .i64 7] 3))
  clear I0 K1 B1
  go_wp2_with fail
  refine SE.out.mono ?_
  rintro e w3 ⟨aa, cap, rfl, hI, hk⟩
  obtain ⟨b, off, z, rfl, hz, -, h1⟩ := hI.at (i := 1) (by omega)
  obtain rfl : z = 0 := by simpa using hz.symm
  obtain ⟨b', off', z, e', hz2, -, h2⟩ := hI.at (i := 2) (by omega)
  cases e'
  obtain rfl : z = 7 := by simpa using hz2.symm
  have K3 := Lib.hid ((K2.out.next hk).alloc (.cells #[.int .i64 3, .int .i64 1, .slice (some ⟨b, off, none⟩) 3 cap] 44))
  have B3 := Lib.hid ((B2.out.later hk).alloc (.cells #[.int .i64 3, .int .i64 1, .slice (some ⟨b, off, none⟩) 3 cap] 44))
  have P3 := Lib.hid (PicB.new w3 44 3 1 (some ⟨b, off, none⟩) 3 cap)
  have h1' : (w3.alloc (.cells #[.int .i64 3, .int .i64 1, .slice (some ⟨b, off, none⟩) 3 cap] 44)).cell? ⟨b, off + 1, none⟩ = some (.int .i64 0) := (keeps_alloc (o := .cells #[.int .i64 3, .int .i64 1, .slice (some ⟨b, off, none⟩) 3 cap] 44) rfl).cell h1
  have h2' : (w3.alloc (.cells #[.int .i64 3, .int .i64 1, .slice (some ⟨b, off, none⟩) 3 cap] 44)).cell? ⟨b, off + 2, none⟩ = some (.int .i64 7) := (keeps_alloc (o := .cells #[.int .i64 3, .int .i64 1, .slice (some ⟨b, off, none⟩) 3 cap] 44) rfl).cell h2
  clear hI hk SE K2 B2 hz hz2 h1 h2
  go_upto_region 3 with (fail)
  generalize w3.alloc (.cells #[.int .i64 3, .int .i64 1, .slice (some ⟨b, off, none⟩) 3 cap] 44) = w4 at *
  generalize w3.heap.size = G at *
  have c0 := B3.out.c0
  have c1 := B3.out.c1
  have c2 := B3.out.c2
  have c3 := B3.out.c3
  have c4 := B3.out.c4
  have c5 := B3.out.c5
  have p2 := P3.out.c2
  go_wp2_with fail
  go_ret
  exact ⟨rfl, K3.out⟩
end Go.Proofs.Ytfcndldobjpbnaa
