/- Area. -/
import Derived.Test.YtboocllckolmgaaD
namespace Go.Proofs.Ytboocllckolmgaa
open Go.RowKit
set_option linter.unusedVariables false

def cr (s : Pt × Pt) : Int := s.1.X * s.2.Y - s.1.Y * s.2.X
def areaL : List (Pt × Pt) → Int
  | [] => 0
  | s :: ss => cr s + areaL ss
/-- Twice the area, as the program sums it up. -/
def areaZ (ps : List Pt) : Int := areaL (sidesL ps)
theorem areaL_append (xs ys : List (Pt × Pt)) : areaL (xs ++ ys) = areaL xs + areaL ys := by
  induction xs with
  | nil => simp [areaL]
  | cons x xs ih => rw [List.cons_append, areaL, areaL, ih]; omega
theorem areaL_more {ss : List (Pt × Pt)} {i : Nat} {s : Pt × Pt} (h : ss[i]? = some s) : areaL (ss.take (i + 1)) = areaL (ss.take i) + cr s := by
  rw [take_more h, areaL_append, areaL, areaL]; omega
theorem mul_coord {a b : Int} (ha : a.natAbs ≤ 2 ^ 20) (hb : b.natAbs ≤ 2 ^ 20) : (a * b).natAbs ≤ 2 ^ 40 := by
  rw [Int.natAbs_mul]
  exact Nat.le_trans (Nat.mul_le_mul ha hb) (by decide)
theorem cr_small {s : Pt × Pt} (h1 : near s.1 = true) (h2 : near s.2 = true) : (cr s).natAbs ≤ 2 ^ 41 := by
  have h1 := near_iff.1 h1
  have h2 := near_iff.1 h2
  unfold cr
  have k1 := mul_coord (a := s.1.X) (b := s.2.Y) (by omega) (by omega)
  have k2 := mul_coord (a := s.1.Y) (b := s.2.X) (by omega) (by omega)
  have k : (2 : Nat) ^ 41 = 2 * 2 ^ 40 := by decide
  omega
theorem areaL_small {ss : List (Pt × Pt)} (h : ∀ s ∈ ss, near s.1 = true ∧ near s.2 = true) : (areaL ss).natAbs ≤ ss.length * 2 ^ 41 := by
  induction ss with
  | nil => simp [areaL]
  | cons s ss ih =>
    have h1 := cr_small (h s List.mem_cons_self).1 (h s List.mem_cons_self).2
    have h2 := ih (fun s hs => h s (List.mem_cons_of_mem _ hs))
    rw [areaL, List.length_cons, Nat.succ_mul]
    omega
theorem areaZ_small {ps : List Pt} (h : shape ps = true) : (areaZ ps).natAbs ≤ 2 ^ 49 := by
  unfold shape at h
  simp only [Bool.and_eq_true, decide_eq_true_eq] at h
  have k := areaL_small (ss := sidesL ps) (fun s hs => sides_near h.2 (by omega) hs)
  unfold sidesL at k
  rw [chainL_length] at k
  have : ps.length * 2 ^ 41 ≤ 256 * 2 ^ 41 := Nat.mul_le_mul_right _ h.1.2
  have e : (256 : Nat) * 2 ^ 41 = 2 ^ 49 := by decide
  unfold areaZ sidesL
  omega

theorem shape_len {ps : List Pt} (h : shape ps = true) : 3 ≤ ps.length ∧ ps.length ≤ 256 ∧ ps.all near = true := by
  unfold shape at h
  simp only [Bool.and_eq_true, decide_eq_true_eq] at h
  exact ⟨h.1.1, h.1.2, h.2⟩

/-- A number and an error, and the old memory as it was. -/
def SaysNE (n : Int) (c : Int) (w : World) (e : Ending) (w' : World) : Prop := e = .returned (.tuple #[.int .i64 n, .int .i64 c]) ∧ Below w.heap.size w w'

set_option maxHeartbeats 1600000 in
theorem area_no (w : World) (a : Option Addr) (n c : Nat) (ps : List Pt) (h : Pts w a n ps) (hn : n ≤ 33554432) (hs : shape ps = false) : Calls Try.prog 20 #[.slice a n c] w (SaysNE 0 31 w) := by
  have C := Lib.hid (shape_any w a n c ps h hn)
  rw [hs] at C
  clear h hs
  go_enter Try.func20, Try.ntmps20
  go_wp2_with fail
  refine C.out.mono ?_
  rintro e w1 ⟨rfl, hb⟩
  have HB := Lib.hid hb
  clear hb C
  go_wp2_with fail
  go_ret2
  exact ⟨rfl, HB.out⟩

set_option maxHeartbeats 1600000 in
theorem area_yes (w : World) (a : Option Addr) (n c : Nat) (ps : List Pt) (h : Pts w a n ps) (hs : shape ps = true) : Calls Try.prog 20 #[.slice a n c] w (SaysNE (areaZ ps) 0 w) := by
  obtain ⟨l1, l2, l3⟩ := shape_len hs
  have hl := h.1
  have C := Lib.hid (shape_any w a n c ps h (by omega))
  rw [hs] at C
  have HP := Lib.hid h
  have HS := Lib.hid hs
  have HN := Lib.hid l3
  have hn1 : 1 ≤ n := by omega
  have hn2 : n ≤ 256 := by omega
  have HL := Lib.hid hl
  clear h hs l1 l2 l3 hl
  go_enter Try.func20, Try.ntmps20
  go_wp2_with fail
  refine C.out.mono ?_
  rintro e w1 ⟨rfl, hb⟩
  have HB := Lib.hid hb
  have CS := Lib.hid (sides_any w1 a n c ps (HP.out.below hb) hn1 hn2)
  clear hb C
  go_wp2_with fail
  refine CS.out.mono ?_
  rintro e w2 ⟨g, he, hg, hrow, hb⟩
  rw [HL.out] at he hrow
  subst he
  have HB2 := Lib.hid (below_more HB.out hb (Nat.le_refl _))
  have HR := Lib.hid hrow
  clear hb HB CS hrow
  go_wp2_with fail
  go_loopw [4, 13] (fun v cnt wr => ∃ (i x : Nat), i ≤ n ∧ cnt = .int .i64 i ∧ v = .float .f64 x ∧ Fl x (areaL ((sidesL ps).take i)) ∧ Below w2.heap.size w2 wr) (fun _ cnt _ => n - (intOf cnt).toNat)
  case atStart => exact ⟨0, 0, Nat.zero_le _, rfl, rfl, fl_zero, Below.refl _ _⟩
  case round =>
    obtain ⟨i, x, hi, rfl, rfl, hx, hb⟩ := hrel
    by_cases hlt : i < n
    · obtain ⟨s, hsi⟩ : ∃ s, (sidesL ps)[i]? = some s := ⟨_, List.getElem?_eq_getElem (by unfold sidesL; rw [chainL_length, HL.out]; exact hlt)⟩
      have hrw := HR.out.below hb
      obtain ⟨c0, c1⟩ := hrw.at (j := i) (v := sdv s) hlt (by rw [List.getElem?_map, hsi]; rfl)
      unfold sdv at c0 c1
      simp only at c0 c1
      obtain ⟨n1, n2⟩ := sides_near HN.out (by rw [HL.out]; omega) (List.mem_of_getElem? hsi)
      have m1 := near_iff.1 n1
      have m2 := near_iff.1 n2
      have k1 := cr_small n1 n2
      have k2 := areaL_small (ss := (sidesL ps).take i) (fun s hs => sides_near HN.out (by rw [HL.out]; omega) (List.mem_of_mem_take hs))
      rw [List.length_take] at k2
      have k3 : min i (sidesL ps).length * 2 ^ 41 ≤ 256 * 2 ^ 41 := Nat.mul_le_mul_right _ (by omega)
      have e2 : (256 : Nat) * 2 ^ 41 = 2 ^ 49 := by decide
      have e3 : (2 : Nat) ^ 53 = 16 * 2 ^ 49 := by decide
      have e4 : (2 : Nat) ^ 49 = 256 * 2 ^ 41 := by decide
      unfold near at n1 n2
      rw [Bool.and_eq_true] at n1 n2
      obtain ⟨r, R, CA⟩ := across_any (fb s.1.X) (fb s.1.Y) (fb s.2.X) (fb s.2.Y) _ _ _ _ (fb_fl n1.1) (fb_fl n1.2) (fb_fl n2.1) (fb_fl n2.2) (mul_small (by omega) (by omega)) (mul_small (by omega) (by omega)) (mul_small (by omega) (by omega)) (mul_small (by omega) (by omega))
      obtain ⟨z, hz, Z⟩ := hx.add (show Fl r (cr s) from R) (by omega)
      rw [← areaL_more hsi] at Z
      have g1 : ∀ (t : TypeId) (w : World), (binOp .add t (.float .f64 x) (.float .f64 r)).run Try.prog w = .ok (.float .f64 z) w := fun t w => run_float_arith w .add t .f64 _ _ _ hz
      have hb1 : Below w2.heap.size w2 (wr.alloc (.cells #[.complex .f64 (fb s.1.X) (fb s.1.Y), .complex .f64 (fb s.2.X) (fb s.2.Y)] 57)) := hb.alloc hb.size _
      have CA := Lib.hid CA
      have hst := store_complex
      have X := Lib.hid (And.intro Z hb1)
      clear hb hb1 hrw k1 k2 k3 e2 e3 e4 n1 n2 m1 m2 hz Z R hx hsi
      generalize fb s.1.X = p1 at *
      generalize fb s.1.Y = p2 at *
      generalize fb s.2.X = p3 at *
      generalize fb s.2.Y = p4 at *
      go_wp2_with fail
      refine (CA.out _).mono ?_
      rintro e w3 ⟨rfl, rfl⟩
      go_wp2_with fail
      go_roundw
      case rel => exact ⟨i + 1, z, hlt, by go_num, rfl, X.out.1, X.out.2⟩
      case measure => simp [intOf]; omega
    · obtain rfl : i = n := by omega
      rw [List.take_of_length_le (by unfold sidesL; rw [chainL_length, HL.out]; exact Nat.le_refl _)] at hx
      have k := areaZ_small HS.out
      have e3 : (2 : Nat) ^ 53 = 16 * 2 ^ 49 := by decide
      have k1 : (areaZ ps).natAbs < 2 ^ 53 := by omega
      have v1 := hx.toInt k1
      have g1 : ∀ w : World, (convert 64 3 (.float .f64 x)).run Try.prog w = .ok (.int .i64 (areaZ ps)) w := fun w => run_convert_float_int w 64 3 .f64 .i64 x _ (by kernel_rfl) Try.underlying3 v1
      have X := Lib.hid (below_more HB2.out hb (Nat.le_refl _))
      clear hx hb v1 k e3 k1
      generalize areaZ ps = A at *
      go_wp2_with fail
      go_ret2
      exact ⟨rfl, X.out⟩
theorem area_any (w : World) (a : Option Addr) (n c : Nat) (ps : List Pt) (h : Pts w a n ps) (hn : n ≤ 33554432) : Calls Try.prog 20 #[.slice a n c] w (SaysNE (if shape ps then areaZ ps else 0) (if shape ps then 0 else 31) w) := by
  cases hs : shape ps with
  | true => exact area_yes w a n c ps h hs
  | false => exact area_no w a n c ps h hn hs
end Go.Proofs.Ytboocllckolmgaa
