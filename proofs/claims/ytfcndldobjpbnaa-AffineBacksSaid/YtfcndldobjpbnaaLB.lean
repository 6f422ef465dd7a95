/- AffineBacks: the walk. (printed by genLB.py) -/
import Derived.Test.YtfcndldobjpbnaaLA
import Derived.Test.YtfcndldobjpbnaaO
namespace Go.Proofs.Ytfcndldobjpbnaa
open Go.RowKit Go.Maps
set_option linter.unusedVariables false

set_option maxHeartbeats 1600000 in
theorem backs_walk (m : Af.M) (w : World) : Calls Try.prog 4 #[.agg #[.int .i64 m.a, .int .i64 m.b, .int .i64 m.c, .int .i64 m.d, .int .i64 m.e, .int .i64 m.f]] w (Yes w) := by
  have F0 := Lib.hid (Six.new w 23 m)
  have K0 := Lib.hid (keeps_alloc (w := w) (o := .cells #[.int .i64 m.a, .int .i64 m.b, .int .i64 m.c, .int .i64 m.d, .int .i64 m.e, .int .i64 m.f] 23) rfl)
  have P := Lib.hid (fun w => back_any m w)
  have D := Lib.hid (fun w => docBack_any m w)
  obtain ⟨q, hq⟩ : ∃ q, (Af.backE m).1 = q := ⟨_, rfl⟩
  obtain ⟨z, hz⟩ : ∃ z, (Af.backE m).2 = z := ⟨_, rfl⟩
  rw [hq, hz] at P D
  clear hq hz
  have EQ := fun w => eq23_self q w
  go_enter Try.func4, Try.ntmps4
  go_upto_region 1 with (fail)
  generalize w.alloc (.cells #[.int .i64 m.a, .int .i64 m.b, .int .i64 m.c, .int .i64 m.d, .int .i64 m.e, .int .i64 m.f] 23) = w1 at *
  generalize w.heap.size = A at *
  go_wp2_with fail
  refine (anchor_any _).mono ?_
  rintro e w2 ⟨rfl, hk⟩
  have F1 := Lib.hid (F0.out.later hk)
  have K1 := Lib.hid (K0.out.next hk)
  clear hk F0 K0
  have c0 := F1.out.c0
  have c1 := F1.out.c1
  have c2 := F1.out.c2
  have c3 := F1.out.c3
  have c4 := F1.out.c4
  have c5 := F1.out.c5
  go_wp2_with fail
  refine (P.out _).mono ?_
  rintro e w3 ⟨rfl, hk⟩
  have F2 := Lib.hid ((F1.out.later hk).alloc (.cells #[.int .i64 q.a, .int .i64 q.b, .int .i64 q.c, .int .i64 q.d, .int .i64 q.e, .int .i64 q.f] 23))
  have G2 := Lib.hid (Six.new w3 23 q)
  have K2 := Lib.hid ((K1.out.next hk).alloc (.cells #[.int .i64 q.a, .int .i64 q.b, .int .i64 q.c, .int .i64 q.d, .int .i64 q.e, .int .i64 q.f] 23))
  clear hk F1 K1 c0 c1 c2 c3 c4 c5
  go_upto_region 4 with (fail)
  generalize w3.alloc (.cells #[.int .i64 q.a, .int .i64 q.b, .int .i64 q.c, .int .i64 q.d, .int .i64 q.e, .int .i64 q.f] 23) = w4 at *
  generalize w3.heap.size = B at *
  have c0 := F2.out.c0
  have c1 := F2.out.c1
  have c2 := F2.out.c2
  have c3 := F2.out.c3
  have c4 := F2.out.c4
  have c5 := F2.out.c5
  go_wp2_with fail
  refine (D.out _).mono ?_
  rintro e w5 ⟨rfl, hk⟩
  have G3 := Lib.hid ((G2.out.later hk).alloc (.cells #[.int .i64 q.a, .int .i64 q.b, .int .i64 q.c, .int .i64 q.d, .int .i64 q.e, .int .i64 q.f] 28))
  have H3 := Lib.hid (Six.new w5 28 q)
  have K3 := Lib.hid ((K2.out.next hk).alloc (.cells #[.int .i64 q.a, .int .i64 q.b, .int .i64 q.c, .int .i64 q.d, .int .i64 q.e, .int .i64 q.f] 28))
  clear hk F2 G2 K2 c0 c1 c2 c3 c4 c5
  go_upto_region 5 with (fail)
  generalize w5.alloc (.cells #[.int .i64 q.a, .int .i64 q.b, .int .i64 q.c, .int .i64 q.d, .int .i64 q.e, .int .i64 q.f] 28) = w6 at *
  generalize w5.heap.size = C at *
  have c0 := G3.out.c0
  have c1 := G3.out.c1
  have c2 := G3.out.c2
  have c3 := G3.out.c3
  have c4 := G3.out.c4
  have c5 := G3.out.c5
  have d0 := H3.out.c0
  have d1 := H3.out.c1
  have d2 := H3.out.c2
  have d3 := H3.out.c3
  have d4 := H3.out.c4
  have d5 := H3.out.c5
  have t : (z == z) = true := by simp
  go_wp2_with fail
  go_ret
  exact ⟨rfl, K3.out⟩
end Go.Proofs.Ytfcndldobjpbnaa
