/- The document's example. -/
import Derived.Test.YtccfjpjhkaicgaaJ
import Derived.Lib.Bytes
namespace Go.Proofs.Ytccfjpjhkaicgaa
open Go.RowKit

def abc : List Int := [97, 98, 99, 100, 101, 102]
def ghi : List Int := [103, 104, 105]
def xyz : List Int := [120, 121, 122]
def A1 : M := { cap := 10, xs := abc, safe := 0, left := -1, down := false }
def A2 : M := { cap := 10, xs := abc, safe := 6, left := -1, down := false }
def A3 : M := { cap := 10, xs := abc ++ ghi, safe := 6, left := -1, down := false }
def A4 : M := { cap := 10, xs := [97, 98, 99, 100, 101, 102, 103, 105], safe := 8, left := -1, down := false }

theorem a1 : (M.new 10).append abc = (0, A1) := by simp [M.append, M.new, M.spend, abc, A1]
theorem a2 : A1.sync = (0, A2) := by simp [M.sync, M.spend, A1, A2, abc]
theorem a3 : A2.append ghi = (0, A3) := by simp [M.append, M.spend, A2, A3, abc, ghi]
theorem a4 : A3.crash 2 [1] = A4 := by
  have e : xr 104 1 = 105 := by unfold xr; rw [u8_xor 104 1 (by omega) (by omega) (by omega) (by omega)]; decide
  have e1 : (min (max (2 : Int) 0) 3).toNat = 2 := by decide
  simp [M.crash, A3, A4, abc, ghi, e1]
  simp [mix, e]
theorem a5 : A4.append xyz = (10, A4) := by simp [M.append, A4, xyz]
theorem byte_abc : ∀ y ∈ abc, 0 ≤ y ∧ y ≤ 255 := by simp [abc]
theorem byte_ghi : ∀ y ∈ ghi, 0 ≤ y ∧ y ≤ 255 := by simp [ghi]
theorem byte_xyz : ∀ y ∈ xyz, 0 ≤ y ∧ y ≤ 255 := by simp [xyz]

set_option maxHeartbeats 400000 in
theorem anchor_any (w : World) : Calls Try.prog 8 #[] w (Yes w) := by
  have kc := fun (w : World) (C : Array Value) (n c : Nat) => Lib.run_convert_bytes_const (P := Try.prog) w 27 5 C n c Try.underlying27 Try.underlying5
  go_enter Try.func8, Try.ntmps8
  go_wp2_with fail
  refine (new_st (Keeps.refl _ w) 10 (by omega) (by omega)).mono ?_
  rintro e w1 ⟨rfl, h1⟩
  have C1 := append_st (h1.alloc _) (Src.lit w1 abc byte_abc (6, 7)) (c := 6) ⟨by decide, by unfold maxLen; omega, by intro h; cases h⟩
  rw [a1] at C1
  have C1 := Lib.hid C1
  clear h1
  go_wp2_with fail
  refine C1.out.mono ?_
  rintro e w2 ⟨rfl, h2⟩
  have C2 := sync_st h2
  rw [a2] at C2
  have C2 := Lib.hid C2
  clear h2
  go_wp2_with fail
  refine C2.out.mono ?_
  rintro e w3 ⟨rfl, h3⟩
  have C3 := append_st (h3.alloc _) (Src.lit w3 ghi byte_ghi (3, 4)) (c := 3) ⟨by decide, by unfold maxLen; omega, by intro h; cases h⟩
  rw [a3] at C3
  have C3 := Lib.hid C3
  clear h3
  go_wp2_with fail
  refine C3.out.mono ?_
  rintro e w4 ⟨rfl, h4⟩
  have C4 := crash_lit h4 2 _ (Src.lit w4 [1] (by simp) (0, 0)) (c := 1) ⟨by decide, by unfold maxLen; omega, by intro h; cases h⟩
  rw [a4] at C4
  have C4 := Lib.hid C4
  clear h4
  go_wp2_with fail
  refine C4.out.mono ?_
  rintro e w5 ⟨rfl, h5⟩
  have C5 := Lib.hid (size_st h5)
  have C6 := Lib.hid (read_st h5 rfl 0 8 (by decide))
  clear h5
  go_wp2_with fail
  refine C5.out.mono ?_
  rintro e w5' ⟨rfl, rfl⟩
  go_wp2_with fail
  refine C6.out.mono ?_
  rintro e w6 ⟨rfl, h6, hs⟩
  have kb := conv_src hs 8
  have kt : ((strOfNums (List.take 8 (List.drop 0 A4.xs))).toList == [97, 98, 99, 100, 101, 102, 103, 105]) = true := by rw [Lib.strOfNums_toList]; decide
  rw [List.drop_zero] at kt
  have C7 := Lib.hid (safe_st h6)
  have C8 := append_st (h6.alloc _) (Src.lit w6 xyz byte_xyz (3, 4)) (c := 3) ⟨by decide, by unfold maxLen; omega, by intro h; cases h⟩
  rw [a5] at C8
  have C8 := Lib.hid C8
  clear h6 hs
  go_wp2_with fail
  refine C7.out.mono ?_
  rintro e w6' ⟨rfl, rfl⟩
  have k8 : (A4.safe == 8) = true := rfl
  go_wp2_with fail
  refine C8.out.mono ?_
  rintro e w7 ⟨rfl, h7⟩
  have K := Lib.hid h7.keeps
  clear h7
  go_wp2_with fail
  go_ret
  exact ⟨rfl, K.out⟩
end Go.Proofs.Ytccfjpjhkaicgaa
