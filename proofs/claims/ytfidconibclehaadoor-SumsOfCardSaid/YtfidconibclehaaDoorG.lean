/- Sums go on, and of two texts' sums the sum of both: the walks of SumsMore and SumsJoin. -/
import Derived.Test.YtfidconibclehaaDoorF
namespace Go.Proofs.YtfidconibclehaaDoor
open Go.RowKit
set_option linter.unusedVariables false

/-- Bytes that came in. -/
def Arg (w : World) (a : Option Addr) (n c : Nat) (ys : List Nat) : Prop := Bytes w a n ys ∧ n ≤ c ∧ (a = none → n = 0 ∧ c = 0)
theorem Arg.below {w w' : World} {a : Option Addr} {n c : Nat} {ys : List Nat} (h : Arg w a n c ys) (hb : Below w.heap.size w w') : Arg w' a n c ys := ⟨h.1.below hb, h.2⟩
theorem Told.arg {w w' : World} {zs : List Nat} {e : Ending} (h : Told w zs e w') (hz : ∀ z ∈ zs, z < 256) : ∃ aa c, e = .returned (.slice aa zs.length c) ∧ Arg w' aa zs.length c zs ∧ Below w.heap.size w w' := by
  obtain ⟨aa, c, he, hown, hb⟩ := h
  have k := bytes_of_own hown hz
  exact ⟨aa, c, he, ⟨k.1, k.2⟩, hb⟩
theorem both_lt {xs ys : List Nat} (hx : ∀ x ∈ xs, x < 256) (hy : ∀ y ∈ ys, y < 256) : ∀ z ∈ xs ++ ys, z < 256 := by
  intro z hz
  rcases List.mem_append.1 hz with h | h
  · exact hx z h
  · exact hy z h

set_option maxHeartbeats 1600000 in
theorem more_long (a0 : Option Addr) (n0 c0 : Nat) (a1 : Option Addr) (n1 c1 : Nat) (w : World) (hF : Fours w) (h : 2500 < n0 ∨ 2500 < n1) :
    Calls Tryd.prog 4 #[.slice a0 n0 c0, .slice a1 n1 c1] w (Yes w) := by
  have A := Lib.hid (anchor_any w hF)
  clear hF
  by_cases h0 : 2500 < n0
  · have t0 : decide ((2500 : Int) < n0) = true := by simp; omega
    go_enter Tryd.func4, Tryd.ntmps4
    go_wp2_with fail
    refine A.out.mono ?_
    rintro e w1 ⟨rfl, hk⟩
    have HK := Lib.hid hk
    clear hk
    go_wp2_with fail
    go_ret
    exact ⟨rfl, HK.out⟩
  · have t0 : decide ((2500 : Int) < n0) = false := by simp; omega
    have t1 : decide ((2500 : Int) < n1) = true := by simp; omega
    go_enter Tryd.func4, Tryd.ntmps4
    go_wp2_with fail
    refine A.out.mono ?_
    rintro e w1 ⟨rfl, hk⟩
    have HK := Lib.hid hk
    clear hk
    go_wp2_with fail
    go_ret
    exact ⟨rfl, HK.out⟩

set_option maxHeartbeats 1600000 in
theorem more_good (a0 : Option Addr) (n0 c0 : Nat) (xs : List Nat) (a1 : Option Addr) (n1 c1 : Nat) (ys : List Nat) (w : World) (hF : Fours w) (h0 : n0 ≤ 2500) (h1 : n1 ≤ 2500) (hx : Arg w a0 n0 c0 xs) (hy : Arg w a1 n1 c1 ys) :
    Calls Tryd.prog 4 #[.slice a0 n0 c0, .slice a1 n1 c1] w (Yes w) := by
  have A := Lib.hid (anchor_any w hF)
  have HX := Lib.hid hx
  have HY := Lib.hid hy
  have HF := Lib.hid hF
  clear hF hx hy
  have t0 : decide ((2500 : Int) < n0) = false := by simp; omega
  have t1 : decide ((2500 : Int) < n1) = false := by simp; omega
  go_enter Tryd.func4, Tryd.ntmps4
  go_wp2_with fail
  refine A.out.mono ?_
  rintro e w1 ⟨rfl, hk⟩
  have HX1 := HX.out.below hk
  have HY1 := HY.out.below hk
  have HF1 := HF.out.below hk
  have J := Lib.hid (join_any w1 a0 n0 c0 xs a1 n1 c1 ys (by omega) (by omega) HX1.1 HX1.2.2 HY1.1 HY1.2.2)
  have HK := Lib.hid hk
  have HX1 := Lib.hid HX1
  have HY1 := Lib.hid HY1
  have HF1 := Lib.hid HF1
  clear hk
  go_wp2_with fail
  refine J.out.mono ?_
  rintro e w2 ht
  obtain ⟨aa, c, rfl, ha, hb⟩ := ht.arg (both_lt HX.out.1.2.1 HY.out.1.2.1)
  have HX2 := HX1.out.below hb
  have HY2 := HY1.out.below hb
  have HF2 := HF1.out.below hb
  have hl : (xs ++ ys).length = n0 + n1 := by rw [List.length_append, HX.out.1.1, HY.out.1.1]
  rw [hl] at ha ⊢
  have C1 := Lib.hid (docCrc_any w2 a0 n0 c0 xs (by omega) HX2.1)
  have C2 := Lib.hid (crcMore_text w2 xs HX.out.1.2.1 a1 n1 c1 ys (by omega) HY2.1 HF2)
  have C3 := Lib.hid (docCrc_any w2 aa (n0 + n1) c (xs ++ ys) (by omega) ha.1)
  have D1 := Lib.hid (docAdler_any w2 a0 n0 c0 xs (by omega) HX2.1)
  have D2 := Lib.hid (adlerMore_text w2 xs a1 n1 c1 ys (by omega) HY2.2.1 HY2.1)
  have D3 := Lib.hid (docAdler_any w2 aa (n0 + n1) c (xs ++ ys) (by omega) ha.1)
  have K2 := Lib.hid (below_more HK.out hb (Nat.le_refl _))
  clear ha hb hl HX2 HY2 HF2 HX1 HY1 HF1 ht
  generalize Sums.crc xs = x1 at *
  generalize Sums.crc (xs ++ ys) = x2 at *
  generalize Sums.adler xs = y1 at *
  generalize Sums.adler (xs ++ ys) = y2 at *
  go_wp2_with fail
  refine C1.out.mono ?_
  rintro e w3 ⟨rfl, rfl⟩
  go_wp2_with fail
  refine C2.out.mono ?_
  rintro e w3 ⟨rfl, rfl⟩
  go_wp2_with fail
  refine C3.out.mono ?_
  rintro e w3 ⟨rfl, rfl⟩
  go_wp2_with fail
  refine D1.out.mono ?_
  rintro e w3 ⟨rfl, rfl⟩
  go_wp2_with fail
  refine D2.out.mono ?_
  rintro e w3 ⟨rfl, rfl⟩
  go_wp2_with fail
  refine D3.out.mono ?_
  rintro e w3 ⟨rfl, rfl⟩
  go_wp2_with fail
  go_ret
  exact ⟨rfl, K2.out⟩
end Go.Proofs.YtfidconibclehaaDoor
