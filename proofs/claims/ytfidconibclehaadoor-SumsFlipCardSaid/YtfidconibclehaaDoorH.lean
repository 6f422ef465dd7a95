/- Of two texts' sums the sum of both: the walk of SumsJoin. -/
import Derived.Test.YtfidconibclehaaDoorG
import Derived.Deep.OwnRows
namespace Go.Proofs.YtfidconibclehaaDoor
open Go.RowKit
set_option linter.unusedVariables false

/-- Noughts that the call made. -/
theorem zeros_bytes (w : World) (n : Nat) : Bytes (w.alloc (.cells (madeCells #[.int .u8 0] n) 5)) (some ⟨w.heap.size, 0, none⟩) n (List.replicate n 0) := by
  refine ⟨by simp, fun y hy => by rw [List.eq_of_mem_replicate hy]; omega, fun _ => ⟨_, _, rfl, fun j y hj => ?_⟩⟩
  have hjn : j < n := by have := (List.getElem?_eq_some_iff.1 hj).1; simpa using this
  rw [List.getElem?_replicate, if_pos hjn] at hj
  cases hj
  rw [World.cell?_alloc_mark, Nat.zero_add]
  simp [madeCells, hjn, Nat.mod_one]

/-- CrcJoin of texts' sums. -/
theorem join_text (w : World) (xs ys : List Nat) (n : Nat) (hx : ∀ x ∈ xs, x < 256) (hy : ∀ y ∈ ys, y < 256) (hl : ys.length = n) (hn : n ≤ 1099511627776) :
    Calls Tryd.prog 17 #[.int .i64 (Sums.crc xs : Nat), .int .i64 (Sums.crc ys : Nat), .int .i64 n] w fun e w' => e = .returned (.int .i64 (Sums.crc (xs ++ ys) : Nat)) ∧ w' = w := by
  have k := join_yes w (Sums.crc xs) (Sums.crc ys) (Sums.crc_lt xs hx) (Sums.crc_lt ys hy) n hn
  rw [← hl, ← Sums.crc_join] at k
  rw [← hl]
  exact k

set_option maxHeartbeats 1600000 in
theorem join_long (a0 : Option Addr) (n0 c0 : Nat) (a1 : Option Addr) (n1 c1 : Nat) (z : Int) (w : World) (hF : Fours w) (h : 1500 < n0 ∨ 1500 < n1) :
    Calls Tryd.prog 5 #[.slice a0 n0 c0, .slice a1 n1 c1, .int .i64 z] w (Yes w) := by
  have A := Lib.hid (anchor_any w hF)
  clear hF
  by_cases h0 : 1500 < n0
  · have t0 : decide ((1500 : Int) < n0) = true := by simp; omega
    go_enter Tryd.func5, Tryd.ntmps5
    go_wp2_with fail
    refine A.out.mono ?_
    rintro e w1 ⟨rfl, hk⟩
    have HK := Lib.hid hk
    clear hk
    go_wp2_with fail
    go_ret
    exact ⟨rfl, HK.out⟩
  · have t0 : decide ((1500 : Int) < n0) = false := by simp; omega
    have t1 : decide ((1500 : Int) < n1) = true := by simp; omega
    go_enter Tryd.func5, Tryd.ntmps5
    go_wp2_with fail
    refine A.out.mono ?_
    rintro e w1 ⟨rfl, hk⟩
    have HK := Lib.hid hk
    clear hk
    go_wp2_with fail
    go_ret
    exact ⟨rfl, HK.out⟩

set_option maxRecDepth 100000 in
set_option maxHeartbeats 1600000 in
theorem join_good (a0 : Option Addr) (n0 c0 : Nat) (xs : List Nat) (a1 : Option Addr) (n1 c1 : Nat) (ys : List Nat) (z : Int) (w : World) (hF : Fours w) (h0 : n0 ≤ 1500) (h1 : n1 ≤ 1500) (hx : Arg w a0 n0 c0 xs) (hy : Arg w a1 n1 c1 ys) :
    Calls Tryd.prog 5 #[.slice a0 n0 c0, .slice a1 n1 c1, .int .i64 z] w (Yes w) := by
  have A := Lib.hid (anchor_any w hF)
  have HX := Lib.hid hx
  have HY := Lib.hid hy
  clear hF hx hy
  have t0 : decide ((1500 : Int) < n0) = false := by simp; omega
  have t1 : decide ((1500 : Int) < n1) = false := by simp; omega
  go_enter Tryd.func5, Tryd.ntmps5
  go_wp2_with fail
  refine A.out.mono ?_
  rintro e w1 ⟨rfl, hk⟩
  have HX1 := HX.out.below hk
  have HY1 := HY.out.below hk
  have C1 := Lib.hid (docCrc_any w1 a0 n0 c0 xs (by omega) HX1.1)
  have C2 := Lib.hid (docCrc_any w1 a1 n1 c1 ys (by omega) HY1.1)
  have C3 := Lib.hid (join_text w1 xs ys n1 HX.out.1.2.1 HY.out.1.2.1 HY.out.1.1 (by omega))
  have J := Lib.hid (join_any w1 a0 n0 c0 xs a1 n1 c1 ys (by omega) (by omega) HX1.1 HX1.2.2 HY1.1 HY1.2.2)
  have HK := Lib.hid hk
  clear hk HX1 HY1
  have hcx := Sums.crc_lt xs HX.out.1.2.1
  have hcy := Sums.crc_lt ys HY.out.1.2.1
  have HCX := Lib.hid (And.intro hcx hcy)
  clear hcx hcy
  generalize hX : Sums.crc xs = x at *
  generalize hY : Sums.crc ys = y at *
  generalize hS : Sums.crc (xs ++ ys) = s at *
  have HS := Lib.hid (And.intro hX (And.intro hY hS))
  clear hX hY hS
  go_wp2_with fail
  refine C1.out.mono ?_
  rintro e w2 ⟨rfl, rfl⟩
  go_wp2_with fail
  refine C2.out.mono ?_
  rintro e w2 ⟨rfl, rfl⟩
  go_wp2_with fail
  refine C3.out.mono ?_
  rintro e w2 ⟨rfl, rfl⟩
  go_wp2_with fail
  refine J.out.mono ?_
  rintro e w3 ht
  obtain ⟨aa, c, rfl, ha, hb⟩ := ht.arg (both_lt HX.out.1.2.1 HY.out.1.2.1)
  have hl : (xs ++ ys).length = n0 + n1 := by rw [List.length_append, HX.out.1.1, HY.out.1.1]
  have D := docCrc_any w3 aa (xs ++ ys).length c (xs ++ ys) (by rw [hl]; omega) ha.1
  rw [HS.out.2.2] at D
  have D := Lib.hid D
  have K3 := Lib.hid (below_more HK.out hb (Nat.le_refl _))
  clear ht ha hb hl
  generalize (xs ++ ys).length = l at *
  go_wp2_with fail
  refine D.out.mono ?_
  rintro e w4 ⟨rfl, rfl⟩
  by_cases hz0 : z < 0
  · have u : decide (z < 0) = true := by simpa using hz0
    have N := Lib.hid (join_no w4 x y z (by omega))
    go_wp2_with fail
    refine N.out.mono ?_
    rintro e w5 ⟨rfl, rfl⟩
    go_wp2_with fail
    go_ret
    exact ⟨rfl, K3.out⟩
  · have u : decide (z < 0) = false := by simpa using hz0
    by_cases hz1 : 1099511627776 < z
    · have u1 : decide (1099511627776 < z) = true := by simpa using hz1
      have N := Lib.hid (join_no w4 x y z (by omega))
      go_wp2_with fail
      refine N.out.mono ?_
      rintro e w5 ⟨rfl, rfl⟩
      go_wp2_with fail
      go_ret
      exact ⟨rfl, K3.out⟩
    · have u1 : decide (1099511627776 < z) = false := by simpa using hz1
      by_cases hz2 : 2000 < z
      · have u2 : decide (2000 < z) = true := by simpa using hz2
        go_wp2_with fail
        go_ret
        exact ⟨rfl, K3.out⟩
      · obtain ⟨n, rfl⟩ := Int.eq_ofNat_of_zero_le (show 0 ≤ z by omega)
        have hn : n ≤ 2000 := by omega
        have u2 : decide (2000 < (n : Int)) = false := by simp only [decide_eq_false_iff_not]; omega
        have hmk := run_make_row' (P := Tryd.prog) 24 5 (.int .u8 0) 1 Tryd.underlying24 info5 rfl .i64 .i64 n (by omega) (by omega)
        have kz : Below w4.heap.size w4 (w4.alloc (.cells (madeCells #[.int .u8 0] n) 5)) := (Below.refl _ _).alloc (Nat.le_refl _) _
        have hz := zeros_bytes w4 n
        have E1 := Lib.hid (docCrc_any _ _ n n (List.replicate n 0) (by omega) hz)
        have hxz := (HX.out.below (below_more K3.out kz (Nat.le_refl _)))
        have J2 := Lib.hid (join_any _ a0 n0 c0 xs _ n n (List.replicate n 0) (by omega) (by omega) hxz.1 hxz.2.2 hz (fun h => by cases h))
        have E2 := join_text (w4.alloc (.cells (madeCells #[.int .u8 0] n) 5)) xs (List.replicate n 0) n HX.out.1.2.1 hz.2.1 (by simp) (by omega)
        rw [HS.out.1] at E2
        have E2 := Lib.hid E2
        have HZ := Lib.hid hz.2.1
        have KZ := Lib.hid (below_more K3.out kz (Nat.le_refl _))
        clear hz hxz kz hz0 hz1 hz2
        generalize hR : List.replicate n 0 = zs at *
        generalize Sums.crc zs = zc at *
        generalize hS2 : Sums.crc (xs ++ zs) = sz at *
        have HR := Lib.hid hR
        have HS2 := Lib.hid hS2
        clear hR hS2
        go_wp2_with fail
        refine E1.out.mono ?_
        rintro e w5 ⟨rfl, rfl⟩
        go_wp2_with fail
        refine E2.out.mono ?_
        rintro e w5 ⟨rfl, rfl⟩
        go_wp2_with fail
        refine J2.out.mono ?_
        rintro e w5 ht
        obtain ⟨ab, cb, rfl, hab, hbb⟩ := ht.arg (both_lt HX.out.1.2.1 HZ.out)
        have hl2 : (xs ++ zs).length ≤ 16777216 := by rw [List.length_append, HX.out.1.1, ← HR.out, List.length_replicate]; omega
        have D2 := docCrc_any w5 ab (xs ++ zs).length cb (xs ++ zs) hl2 hab.1
        rw [HS2.out] at D2
        have D2 := Lib.hid D2
        have K5 := Lib.hid (below_more KZ.out hbb (Nat.le_refl _))
        clear ht hab hbb hl2
        generalize (xs ++ zs).length = l2 at *
        go_wp2_with fail
        refine D2.out.mono ?_
        rintro e w6 ⟨rfl, rfl⟩
        go_wp2_with fail
        go_ret
        exact ⟨rfl, K5.out⟩
end Go.Proofs.YtfidconibclehaaDoor
