/- Two numbers compared; the first that is not nought; the closure that tells which symbol comes first. -/
import Derived.Test.YtoiknbbimgeihaaXA
import Derived.Lib.Slices
import Derived.Lib.Small
import Derived.Lib.Walk
import Derived.StillTailTactics
import Derived.Deep.RegionLaw
import Derived.Sort.Grow
namespace Go.Proofs.Ytoiknbbimgeihaa
open Go.RowKit
set_option linter.unusedVariables false

set_option maxHeartbeats 1000000 in
theorem compare_any (x y : Int) (w : World) :
    Calls Try.prog 30 #[.int .i64 x, .int .i64 y] w fun e w' => e = .returned (.int .i64 (Lib.compareInt x y)) ∧ w' = w := by
  go_enter Try.func30, Try.ntmps30
  go_wp2
  all_goals (go_ret; refine ⟨?_, rfl⟩; unfold Lib.compareInt; (repeat' split) <;> first | rfl | (exfalso; omega))

def orS (p q : Int) : Int := if p = 0 then q else p

set_option maxHeartbeats 1000000 in
theorem or_any (w : World) (b o : Nat) (p q : Int) (c : Nat) (hp : w.cell? ⟨b, o, none⟩ = some (.int .i64 p)) (hq : w.cell? ⟨b, o + 1, none⟩ = some (.int .i64 q)) :
    Calls Try.prog 29 #[.slice (some ⟨b, o, none⟩) 2 c] w fun e w' => e = .returned (.int .i64 (orS p q)) ∧ w' = w := by
  have HP := Lib.hid hp
  have HQ := Lib.hid hq
  clear hp hq
  go_enter Try.func29, Try.ntmps29
  go_wp2
  go_loopw [8] (fun cnt wr => ∃ i : Nat, i ≤ 2 ∧ cnt = .int .i64 i ∧ (1 ≤ i → p = 0) ∧ (2 ≤ i → q = 0) ∧ wr = w) (fun cnt _ => 2 - (intOf cnt).toNat)
  case atStart => exact ⟨0, by omega, rfl, by omega, by omega, rfl⟩
  case round =>
    obtain ⟨i, hi, rfl, h1, h2, rfl⟩ := hrel
    match i, hi with
    | 0, _ =>
      have hc := HP.out
      by_cases hp : p = 0
      · subst hp
        go_wp2_with fail
        go_roundw
        case rel => exact ⟨1, by omega, by go_num, fun _ => trivial, fun h => absurd h (by omega), trivial⟩
        case measure => simp [intOf]
      · have u1 : decide (p = 0) = false := by simpa using hp
        have u2 : (p == 0) = false := by simpa using hp
        have u3 : (p != 0) = true := by simpa using hp
        have u4 : decide (¬ p = 0) = true := by simpa using hp
        go_wp2_with fail
        go_ret
        exact ⟨by unfold orS; rw [if_neg hp]; rfl, rfl⟩
    | 1, _ =>
      have hc := HQ.out
      have hp0 := Lib.hid (h1 (by omega))
      clear h1 h2
      by_cases hp : q = 0
      · subst hp
        go_wp2_with fail
        go_roundw
        case rel => exact ⟨2, by omega, by go_num, fun _ => hp0.out, fun _ => trivial, trivial⟩
        case measure => simp [intOf]
      · have u1 : decide (q = 0) = false := by simpa using hp
        have u2 : (q == 0) = false := by simpa using hp
        have u3 : (q != 0) = true := by simpa using hp
        have u4 : decide (¬ q = 0) = true := by simpa using hp
        go_wp2_with fail
        go_ret
        exact ⟨by unfold orS; rw [if_pos hp0.out]; rfl, rfl⟩
    | 2, _ =>
      have hp0 := Lib.hid (h1 (by omega))
      have hq0 := Lib.hid (h2 (by omega))
      clear h1 h2
      go_wp2_with fail
      go_ret
      exact ⟨by unfold orS; rw [if_pos hp0.out, hq0.out]; rfl, rfl⟩

/-- Which of two symbols comes first. -/
def cfZ (zs : List Int) (x y : Nat) : Int := orS (Lib.compareInt (zs.getD x 0) (zs.getD y 0)) (Lib.compareInt x y)

set_option maxHeartbeats 1600000 in
set_option maxRecDepth 100000 in
theorem closure_any (w : World) (B : Nat) (a : Option Addr) (n c : Nat) (zs : List Int) (x y : Nat) (hx : x < n) (hy : y < n)
    (hbox : w.cell? ⟨B, 0, none⟩ = some (.slice a n c)) (hz : Ints w a n zs) :
    Calls Try.prog 28 #[.int .i64 x, .int .i64 y, .pointer (some ⟨B, 0, none⟩)] w fun e w' => e = .returned (.int .i64 (cfZ zs x y)) ∧ ∃ q os, w' = Go.Sort.grow (w.drewN q) os := by
  obtain ⟨b, off, z1, rfl, hz1, _, hc1⟩ := hz.at hx
  obtain ⟨b2, off2, z2, he, hz2, _, hc2⟩ := hz.at hy
  simp only [Option.some.injEq, Addr.mk.injEq] at he
  obtain ⟨rfl, rfl, -⟩ := he
  have e1 : zs.getD x 0 = z1 := by rw [List.getD_eq_getElem?_getD, hz1]; rfl
  have e2 : zs.getD y 0 = z2 := by rw [List.getD_eq_getElem?_getD, hz2]; rfl
  have CA := Lib.hid (fun W => compare_any z1 z2 W)
  have CB := Lib.hid (fun W => compare_any x y W)
  unfold cfZ
  rw [e1, e2]
  generalize Lib.compareInt z1 z2 = p at *
  generalize Lib.compareInt x y = q at *
  clear hz hz1 hz2 e1 e2
  have CO := Lib.hid (or_any (w.drew.alloc (.cells #[.int .i64 p, .int .i64 q] 3)) w.heap.size 0 p q 2 (by rw [show w.heap.size = w.drew.heap.size from rfl, World.cell?_alloc_mark]; rfl) (by rw [show w.heap.size = w.drew.heap.size from rfl, World.cell?_alloc_mark]; rfl))
  go_enter Try.func28, Try.ntmps28
  go_wp2_with fail
  go_still_tail 12, (by kernel_rfl)
  still_call (CA.out _)
  repeat still_step
  still_call (CB.out _)
  repeat still_step
  refine wpStill_nil ?_
  change wpList _ _ _ _ _ w.drew
  clear hbox hc1 hc2 CA CB
  go_wp2_with fail
  refine CO.out.mono ?_
  rintro e w' ⟨rfl, hw⟩
  obtain rfl := hw.symm
  go_wp2_with fail
  go_ret
  exact ⟨rfl, 1, #[.cells #[.int .i64 p, .int .i64 q] 3], (Go.Sort.alloc_eq_grow w.drew (.cells #[.int .i64 p, .int .i64 q] 3) :)⟩
end Go.Proofs.Ytoiknbbimgeihaa
