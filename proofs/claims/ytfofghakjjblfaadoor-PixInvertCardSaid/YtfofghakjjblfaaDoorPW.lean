/- PixWays. -/
import Derived.Test.YtfofghakjjblfaaDoorPIa
import Derived.Test.YtfofghakjjblfaaDoorPIb
import Derived.Test.YtfofghakjjblfaaDoorPIc
namespace Go.Proofs.YtfofghakjjblfaaDoor
open Go.RowKit
set_option linter.unusedVariables false

theorem docWay_any (k : Int) (s d : Px.Pix) (hs : s.bytes) (hd : d.bytes) (w : World) :
    Calls Tryd.prog 20 #[.int .i64 k, .agg #[.int .i64 s.r, .int .i64 s.g, .int .i64 s.b, .int .i64 s.a], .agg #[.int .i64 d.r, .int .i64 d.g, .int .i64 d.b, .int .i64 d.a]] w fun e w' =>
    e = .returned (.agg #[.int .i64 (Px.way k s d).r, .int .i64 (Px.way k s d).g, .int .i64 (Px.way k s d).b, .int .i64 (Px.way k s d).a]) ∧ Keeps none' w w' := by
  by_cases h0 : k < 0
  · exact docWay_low k h0 s d hs hd w
  · by_cases h1 : 12 ≤ k
    · exact docWay_high k h1 s d hs hd w
    · exact docWay_nat k.toNat (by omega) k (by omega) s d hs hd w
end Go.Proofs.YtfofghakjjblfaaDoor
