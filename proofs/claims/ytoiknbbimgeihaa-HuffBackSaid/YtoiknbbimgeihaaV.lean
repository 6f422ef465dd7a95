/- HuffLeast and HuffOrder whole, over what the program's functions are to say. -/
import Derived.Test.YtoiknbbimgeihaaU
namespace Go.Proofs.Ytoiknbbimgeihaa
open Go.RowKit
set_option linter.unusedVariables false

theorem huffLeast_any (HA : AnchorSays) (HL : LengthsSays) (w : World) (a : Option Addr) (n c : Nat) (zs : List Int) (most : Int) (hm0 : -9223372036854775808 ≤ most ∧ most ≤ 9223372036854775807) (hz : Ints w a n zs) : Calls Try.prog 3 #[.slice a n c, .int .i64 most] w (Yes w) := by
  by_cases h : 1000 < n
  · exact huffLeast_long HA w a n c most h
  · by_cases hno : 1 ≤ most ∧ most ≤ 16 ∧ n ≤ 300
    · cases hg : good zs most with
      | true => exact huffLeast_good HA HL w a n c zs most hz hg
      | false => exact huffLeast_bad HA HL w a n c zs most hz hno.1 hno.2.1 hno.2.2 hg
    · exact huffLeast_wrong HA HL w a n c zs most hm0 (by omega) hz hno
theorem huffOrder_any (HA : AnchorSays) (HL : LengthsSays) (HW : WeightSays) (w : World) (a : Option Addr) (n c : Nat) (zs : List Int) (most : Int) (hm0 : -9223372036854775808 ≤ most ∧ most ≤ 9223372036854775807) (hz : Ints w a n zs) : Calls Try.prog 4 #[.slice a n c, .int .i64 most] w (Yes w) := by
  by_cases h : 300 < n
  · exact huffOrder_long HA w a n c most h
  · exact huffOrder_good HA HL HW w a n c zs most hm0 (by omega) hz
theorem huffCodes_any (HA : AnchorSays) (HW : WeightSays) (HC : CodesSays) (w : World) (a : Option Addr) (n c : Nat) (zs : List Int) (hz : Ints w a n zs) : Calls Try.prog 5 #[.slice a n c] w (Yes w) := by
  by_cases h : 1000 < n
  · exact huffCodes_long HA w a n c h
  · exact huffCodes_good HA HW HC w a n c zs (by omega) hz
end Go.Proofs.Ytoiknbbimgeihaa
