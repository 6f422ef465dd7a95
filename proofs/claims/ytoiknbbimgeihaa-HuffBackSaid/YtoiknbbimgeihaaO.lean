/- HuffLeast: what is right so far, as plain data; the way of too many counts. -/
import Derived.Test.YtoiknbbimgeihaaN
namespace Go.Proofs.Ytoiknbbimgeihaa
open Go.RowKit
set_option linter.unusedVariables false

/-- What is right so far. -/
def rightN (zs : List Int) (most : Int) (k : Nat) : Bool := decide (1 ≤ most ∧ most ≤ 16 ∧ zs.length ≤ 300) && (List.range k).all (fun i => decide (0 ≤ zs.getD i 0 ∧ zs.getD i 0 ≤ 1099511627776))
theorem rightN_succ (zs : List Int) (most : Int) (k : Nat) : rightN zs most (k + 1) = (rightN zs most k && decide (0 ≤ zs.getD k 0 ∧ zs.getD k 0 ≤ 1099511627776)) := by
  unfold rightN
  rw [List.range_succ, List.all_append, Bool.and_assoc]
  simp
theorem good_right (zs : List Int) (most : Int) : good zs most = (rightN zs most zs.length && decide ((posI zs).length ≤ 2 ^ most.toNat)) := by
  rw [Bool.eq_iff_iff]
  unfold good rightN
  simp only [Bool.and_eq_true, decide_eq_true_eq, List.all_eq_true, List.mem_range]
  constructor
  · rintro ⟨h1, h2, h3, h4, h5⟩
    exact ⟨⟨⟨h1, h2, h3⟩, fun i hi => h4 _ (getD_mem hi)⟩, h5⟩
  · rintro ⟨⟨⟨h1, h2, h3⟩, h4⟩, h5⟩
    refine ⟨h1, h2, h3, fun z hz => ?_, h5⟩
    obtain ⟨i, hi⟩ := List.getElem?_of_mem hz
    have := h4 i (List.getElem?_eq_some_iff.1 hi).1
    rw [getD_of hi] at this
    exact this

set_option maxRecDepth 100000 in
set_option maxHeartbeats 1600000 in
theorem huffLeast_long (HA : AnchorSays) (w : World) (a : Option Addr) (n c : Nat) (most : Int) (h : 1000 < n) : Calls Try.prog 3 #[.slice a n c, .int .i64 most] w (Yes w) := by
  have A := Lib.hid (HA w)
  have t0 : decide ((1000 : Int) < n) = true := by simp; omega
  go_enter Try.func3, Try.ntmps3
  go_wp2_with fail
  refine A.out.mono ?_
  rintro e w1 ⟨rfl, hk⟩
  have HK := Lib.hid hk
  clear hk
  go_wp2
  go_ret
  exact ⟨rfl, HK.out⟩

end Go.Proofs.Ytoiknbbimgeihaa
