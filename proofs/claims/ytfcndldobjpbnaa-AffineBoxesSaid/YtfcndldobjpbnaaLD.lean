/- AffineBoxes: the walk. (printed by genLF.py) -/
import Derived.Test.YtfcndldobjpbnaaLDD
namespace Go.Proofs.Ytfcndldobjpbnaa
open Go.RowKit Go.Maps
set_option linter.unusedVariables false

theorem boxes_walk (m : Af.M) (x y pw ph : Int) (w : World) (hx : -9223372036854775808 ≤ x ∧ x ≤ 9223372036854775807) (hy : -9223372036854775808 ≤ y ∧ y ≤ 9223372036854775807) (hp : -9223372036854775808 ≤ pw ∧ pw ≤ 9223372036854775807) (hq : -9223372036854775808 ≤ ph ∧ ph ≤ 9223372036854775807) : Calls Try.prog 6 #[.agg #[.int .i64 m.a, .int .i64 m.b, .int .i64 m.c, .int .i64 m.d, .int .i64 m.e, .int .i64 m.f], .int .i64 x, .int .i64 y, .int .i64 pw, .int .i64 ph] w (Yes w) := by
  by_cases hb : BoxOk m x y pw ph
  · exact boxes_good m x y pw ph w hb
  · exact boxes_bad m x y pw ph w hb
end Go.Proofs.Ytfcndldobjpbnaa
