/- The back map: numbers beyond all limits. -/
import Derived.Test.YtfcndldobjpbnaaE
namespace Go.Proofs.Ytfcndldobjpbnaa
open Go.RowKit
set_option linter.unusedVariables false

def AnyInt (w : World) (e : Ending) (w' : World) : Prop := ∃ r : Int, e = .returned (.int .i64 r) ∧ w' = w
def AnyTwo (w : World) (e : Ending) (w' : World) : Prop := ∃ r s : Int, e = .returned (.tuple #[.int .i64 r, .int .i64 s]) ∧ Keeps none' w w'
theorem down_wild (n : Int) (w : World) : Calls Try.prog 38 #[.int .i64 n] w (AnyInt w) := by
  go_enter Try.func38, Try.ntmps38
  go_wp2
  go_ret
  exact ⟨_, rfl, rfl⟩
theorem near_wild (n : Int) (w : World) : Calls Try.prog 31 #[.int .i64 n] w (AnyInt w) := by
  have C := Lib.hid (fun n => down_wild n w)
  go_enter Try.func31, Try.ntmps31
  go_wp2_with fail
  refine (C.out _).mono ?_
  rintro e w' ⟨r, rfl, rfl⟩
  go_wp2_with fail
  go_ret
  exact ⟨_, rfl, rfl⟩
set_option maxHeartbeats 800000 in
theorem slope_wild (m : Af.M) (x y : Int) (w : World) : Calls Try.prog 30 #[.agg #[.int .i64 m.a, .int .i64 m.b, .int .i64 m.c, .int .i64 m.d, .int .i64 m.e, .int .i64 m.f], .int .i64 x, .int .i64 y] w (AnyTwo w) := by
  have F0 := Six.new w 23 m
  have K0 := Lib.hid (keeps_alloc (w := w) (o := .cells #[.int .i64 m.a, .int .i64 m.b, .int .i64 m.c, .int .i64 m.d, .int .i64 m.e, .int .i64 m.f] 23) rfl)
  go_enter Try.func30, Try.ntmps30
  go_wp2_with fail
  generalize w.alloc (.cells #[.int .i64 m.a, .int .i64 m.b, .int .i64 m.c, .int .i64 m.d, .int .i64 m.e, .int .i64 m.f] 23) = w7 at *
  generalize w.heap.size = B at *
  have c0 := F0.c0
  have c1 := F0.c1
  have c2 := F0.c2
  have c3 := F0.c3
  clear F0
  go_quiet (fail)
  go_wp2_with fail
  go_ret2
  exact ⟨_, _, rfl, K0.out.drewN _⟩
end Go.Proofs.Ytfcndldobjpbnaa
