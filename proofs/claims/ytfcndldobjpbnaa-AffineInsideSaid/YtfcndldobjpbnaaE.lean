/- The product of maps. -/
import Derived.Test.YtfcndldobjpbnaaD
namespace Go.Proofs.Ytfcndldobjpbnaa
open Go.RowKit
set_option linter.unusedVariables false

theorem results_cell_row2 {P : Program} {fn : Func} {p u : Tmp} {ty : TypeId} (h : fn.results = #[.cell p ty, .tmp u]) (tmps : Array Value) (w : World) (g : Nat) (t : TypeId) (cs : Array Value) (fr : Nat × Nat) (d : TypeDesc)
    (hp : tmps.getD p undef = .pointer (some ⟨g, 0, none⟩)) (hg : w.heap[g]? = some (.cells cs t fr))
    (hu : P.underlying ty = some d) (hd : (match d with | .struct _ | .array _ _ => true | _ => false) = true) (hi : (P.info? ty).map (·.size) = some cs.size) :
    (results fn tmps).run P w = .ok (.tuple #[.agg cs, tmps.getD u undef]) w := by
  have hp' : tmps[p]?.getD undef = .pointer (some ⟨g, 0, none⟩) := by simpa using hp
  simp [results, h, hp', asAddr, run_loadVar_row w g t ty cs fr d hg hu hd hi]
theorem right_yes {m : Af.M} (h : m.ok) (w : World) : Calls Try.prog 15 #[.agg #[.int .i64 m.a, .int .i64 m.b, .int .i64 m.c, .int .i64 m.d, .int .i64 m.e, .int .i64 m.f]] w fun e w' => e = .returned (.bool true) ∧ Keeps none' w w' :=
  (right_any m w).mono fun e w' ⟨h1, h2⟩ => ⟨by rw [h1, decide_eq_true h], keeps_alloc h2⟩
theorem right_no {m : Af.M} (h : ¬ m.ok) (w : World) : Calls Try.prog 15 #[.agg #[.int .i64 m.a, .int .i64 m.b, .int .i64 m.c, .int .i64 m.d, .int .i64 m.e, .int .i64 m.f]] w fun e w' => e = .returned (.bool false) ∧ Keeps none' w w' :=
  (right_any m w).mono fun e w' ⟨h1, h2⟩ => ⟨by rw [h1, decide_eq_false h], keeps_alloc h2⟩
def Told (m : Af.M) (c : Int) (w : World) (e : Ending) (w' : World) : Prop := e = .returned (.tuple #[.agg #[.int .i64 m.a, .int .i64 m.b, .int .i64 m.c, .int .i64 m.d, .int .i64 m.e, .int .i64 m.f], .int .i64 c]) ∧ Keeps none' w w'
/-- Blocks of six numbers, the last one under way. -/
structure Tri (w : World) (A B R : Nat) (m n r : Af.M) (w' : World) : Prop where
  one : Six w' A 23 m
  two : Six w' B 23 n
  res : Six w' R 23 r
  keeps : Keeps none' w w'
  low : w.heap.size ≤ R
theorem Tri.later {w w1 w2 : World} {A B R : Nat} {m n r : Af.M} (h : Tri w A B R m n r w1) (k : Keeps none' w1 w2) : Tri w A B R m n r w2 :=
  ⟨h.one.later k, h.two.later k, h.res.later k, h.keeps.next k, h.low⟩
theorem Tri.new (w : World) (m n r : Af.M) : Tri w w.heap.size (w.heap.size + 1) (w.heap.size + 1 + 1) m n r (((w.alloc (.cells #[.int .i64 m.a, .int .i64 m.b, .int .i64 m.c, .int .i64 m.d, .int .i64 m.e, .int .i64 m.f] 23)).alloc (.cells #[.int .i64 n.a, .int .i64 n.b, .int .i64 n.c, .int .i64 n.d, .int .i64 n.e, .int .i64 n.f] 23)).alloc (.cells #[.int .i64 r.a, .int .i64 r.b, .int .i64 r.c, .int .i64 r.d, .int .i64 r.e, .int .i64 r.f] 23)) := by
  refine ⟨((Six.new _ _ _).alloc _).alloc _, ?_, ?_, (((Keeps.refl _ _).alloc _).alloc _).alloc _, by omega⟩
  · have := (Six.new (w.alloc (.cells #[.int .i64 m.a, .int .i64 m.b, .int .i64 m.c, .int .i64 m.d, .int .i64 m.e, .int .i64 m.f] 23)) 23 n).alloc (.cells #[.int .i64 r.a, .int .i64 r.b, .int .i64 r.c, .int .i64 r.d, .int .i64 r.e, .int .i64 r.f] 23)
    simpa using this
  · have := Six.new ((w.alloc (.cells #[.int .i64 m.a, .int .i64 m.b, .int .i64 m.c, .int .i64 m.d, .int .i64 m.e, .int .i64 m.f] 23)).alloc (.cells #[.int .i64 n.a, .int .i64 n.b, .int .i64 n.c, .int .i64 n.d, .int .i64 n.e, .int .i64 n.f] 23)) 23 r
    simpa using this
theorem block_all {w : World} {R ty : Nat} {m : Af.M} (h : Six w R ty m) (r : Af.M) :
    Six ((((((w.setCell ⟨R, 0, none⟩ (.int .i64 r.a)).setCell ⟨R, 1, none⟩ (.int .i64 r.b)).setCell ⟨R, 2, none⟩ (.int .i64 r.c)).setCell ⟨R, 3, none⟩ (.int .i64 r.d)).setCell ⟨R, 4, none⟩ (.int .i64 r.e)).setCell ⟨R, 5, none⟩ (.int .i64 r.f)) R ty r := by
  have : ((#[.int .i64 m.a, .int .i64 m.b, .int .i64 m.c, .int .i64 m.d, .int .i64 m.e, .int .i64 m.f] : Array Value).setIfInBounds 0 (.int .i64 r.a)) = _ := rfl
  unfold Six at *
  simp [World.setCell, Array.getElem?_modify, h]

theorem Keeps.all {w w' : World} {R : Nat} (h : Keeps none' w w') (hR : w.heap.size ≤ R) (r : Af.M) :
    Keeps none' w ((((((w'.setCell ⟨R, 0, none⟩ (.int .i64 r.a)).setCell ⟨R, 1, none⟩ (.int .i64 r.b)).setCell ⟨R, 2, none⟩ (.int .i64 r.c)).setCell ⟨R, 3, none⟩ (.int .i64 r.d)).setCell ⟨R, 4, none⟩ (.int .i64 r.e)).setCell ⟨R, 5, none⟩ (.int .i64 r.f)) :=
  (((((h.setCell (fun e => by simp only at e; omega) _).setCell (fun e => by simp only at e; omega) _).setCell (fun e => by simp only at e; omega) _).setCell (fun e => by simp only at e; omega) _).setCell (fun e => by simp only at e; omega) _).setCell (fun e => by simp only at e; omega) _
set_option maxHeartbeats 800000 in
theorem times_bad1 (m n : Af.M) (hm : ¬ m.ok) (w : World) : Calls Try.prog 13 #[.agg #[.int .i64 m.a, .int .i64 m.b, .int .i64 m.c, .int .i64 m.d, .int .i64 m.e, .int .i64 m.f], .agg #[.int .i64 n.a, .int .i64 n.b, .int .i64 n.c, .int .i64 n.d, .int .i64 n.e, .int .i64 n.f]] w (Told Af.zero 31 w) := by
  have T0 : Tri w w.heap.size (w.heap.size + 1) (w.heap.size + 1 + 1) m n Af.zero (((w.alloc (.cells #[.int .i64 m.a, .int .i64 m.b, .int .i64 m.c, .int .i64 m.d, .int .i64 m.e, .int .i64 m.f] 23)).alloc (.cells #[.int .i64 n.a, .int .i64 n.b, .int .i64 n.c, .int .i64 n.d, .int .i64 n.e, .int .i64 n.f] 23)).alloc (.cells #[.int .i64 0, .int .i64 0, .int .i64 0, .int .i64 0, .int .i64 0, .int .i64 0] 23)) := Tri.new w m n Af.zero
  have C := Lib.hid (fun w => right_no hm w)
  clear hm
  go_enter Try.func13, Try.ntmps13
  go_upto_region 1 with (fail)
  generalize ((w.alloc (.cells #[.int .i64 m.a, .int .i64 m.b, .int .i64 m.c, .int .i64 m.d, .int .i64 m.e, .int .i64 m.f] 23)).alloc (.cells #[.int .i64 n.a, .int .i64 n.b, .int .i64 n.c, .int .i64 n.d, .int .i64 n.e, .int .i64 n.f] 23)).alloc (.cells #[.int .i64 0, .int .i64 0, .int .i64 0, .int .i64 0, .int .i64 0, .int .i64 0] 23) = w1 at *
  obtain ⟨A, hA⟩ : ∃ A, A = w.heap.size := ⟨_, rfl⟩
  obtain ⟨B, hB⟩ : ∃ B, B = A + 1 := ⟨_, rfl⟩
  obtain ⟨R, hR⟩ : ∃ R, R = B + 1 := ⟨_, rfl⟩
  rw [← hA, ← hB, ← hR] at T0
  rw [← hA, ← hB, ← hR]
  clear hA hB hR
  have T := Lib.hid T0
  clear T0
  have c0 := T.out.one.c0
  have c1 := T.out.one.c1
  have c2 := T.out.one.c2
  have c3 := T.out.one.c3
  have c4 := T.out.one.c4
  have c5 := T.out.one.c5
  go_wp2_with fail
  refine (C.out _).mono ?_
  rintro e w2 ⟨rfl, hk⟩
  have T2 := Lib.hid (T.out.later hk)
  clear hk T c0 c1 c2 c3 c4 c5
  have r0 := T2.out.res.c0
  have r1 := T2.out.res.c1
  have r2 := T2.out.res.c2
  have r3 := T2.out.res.c3
  have r4 := T2.out.res.c4
  have r5 := T2.out.res.c5
  have f0 := T2.out.res.fr (i := 0)
  have f1 := T2.out.res.fr (i := 1)
  have f2 := T2.out.res.fr (i := 2)
  have f3 := T2.out.res.fr (i := 3)
  have f4 := T2.out.res.fr (i := 4)
  have f5 := T2.out.res.fr (i := 5)
  have X := Lib.hid (block_all T2.out.res Af.zero)
  have Y := Lib.hid (T2.out.keeps.all T2.out.low Af.zero)
  go_wp2_with fail
  refine bodyPost_ret (results_cell_row2 rfl _ _ R 23 #[.int .i64 0, .int .i64 0, .int .i64 0, .int .i64 0, .int .i64 0, .int .i64 0] (0, 0) _ rfl X.out Try.underlying23 rfl (by kernel_rfl)) rfl ?_
  exact ⟨rfl, Y.out⟩

set_option maxHeartbeats 800000 in
theorem times_bad2 (m n : Af.M) (hm : m.ok) (hn : ¬ n.ok) (w : World) : Calls Try.prog 13 #[.agg #[.int .i64 m.a, .int .i64 m.b, .int .i64 m.c, .int .i64 m.d, .int .i64 m.e, .int .i64 m.f], .agg #[.int .i64 n.a, .int .i64 n.b, .int .i64 n.c, .int .i64 n.d, .int .i64 n.e, .int .i64 n.f]] w (Told Af.zero 31 w) := by
  have T0 : Tri w w.heap.size (w.heap.size + 1) (w.heap.size + 1 + 1) m n Af.zero (((w.alloc (.cells #[.int .i64 m.a, .int .i64 m.b, .int .i64 m.c, .int .i64 m.d, .int .i64 m.e, .int .i64 m.f] 23)).alloc (.cells #[.int .i64 n.a, .int .i64 n.b, .int .i64 n.c, .int .i64 n.d, .int .i64 n.e, .int .i64 n.f] 23)).alloc (.cells #[.int .i64 0, .int .i64 0, .int .i64 0, .int .i64 0, .int .i64 0, .int .i64 0] 23)) := Tri.new w m n Af.zero
  have C := Lib.hid (fun w => right_yes hm w)
  have D := Lib.hid (fun w => right_no hn w)
  clear hm hn
  go_enter Try.func13, Try.ntmps13
  go_upto_region 1 with (fail)
  generalize ((w.alloc (.cells #[.int .i64 m.a, .int .i64 m.b, .int .i64 m.c, .int .i64 m.d, .int .i64 m.e, .int .i64 m.f] 23)).alloc (.cells #[.int .i64 n.a, .int .i64 n.b, .int .i64 n.c, .int .i64 n.d, .int .i64 n.e, .int .i64 n.f] 23)).alloc (.cells #[.int .i64 0, .int .i64 0, .int .i64 0, .int .i64 0, .int .i64 0, .int .i64 0] 23) = w1 at *
  obtain ⟨A, hA⟩ : ∃ A, A = w.heap.size := ⟨_, rfl⟩
  obtain ⟨B, hB⟩ : ∃ B, B = A + 1 := ⟨_, rfl⟩
  obtain ⟨R, hR⟩ : ∃ R, R = B + 1 := ⟨_, rfl⟩
  rw [← hA, ← hB, ← hR] at T0
  rw [← hA, ← hB, ← hR]
  clear hA hB hR
  have T := Lib.hid T0
  clear T0
  have c0 := T.out.one.c0
  have c1 := T.out.one.c1
  have c2 := T.out.one.c2
  have c3 := T.out.one.c3
  have c4 := T.out.one.c4
  have c5 := T.out.one.c5
  go_wp2_with fail
  refine (C.out _).mono ?_
  rintro e w2 ⟨rfl, hk⟩
  have T2 := Lib.hid (T.out.later hk)
  clear hk T c0 c1 c2 c3 c4 c5
  have c0 := T2.out.two.c0
  have c1 := T2.out.two.c1
  have c2 := T2.out.two.c2
  have c3 := T2.out.two.c3
  have c4 := T2.out.two.c4
  have c5 := T2.out.two.c5
  go_wp2_with fail
  refine (D.out _).mono ?_
  rintro e w3 ⟨rfl, hk⟩
  have T3 := Lib.hid (T2.out.later hk)
  clear hk T2 c0 c1 c2 c3 c4 c5
  have r0 := T3.out.res.c0
  have r1 := T3.out.res.c1
  have r2 := T3.out.res.c2
  have r3 := T3.out.res.c3
  have r4 := T3.out.res.c4
  have r5 := T3.out.res.c5
  have f0 := T3.out.res.fr (i := 0)
  have f1 := T3.out.res.fr (i := 1)
  have f2 := T3.out.res.fr (i := 2)
  have f3 := T3.out.res.fr (i := 3)
  have f4 := T3.out.res.fr (i := 4)
  have f5 := T3.out.res.fr (i := 5)
  have X := Lib.hid (block_all T3.out.res Af.zero)
  have Y := Lib.hid (T3.out.keeps.all T3.out.low Af.zero)
  go_wp2_with fail
  refine bodyPost_ret (results_cell_row2 rfl _ _ R 23 #[.int .i64 0, .int .i64 0, .int .i64 0, .int .i64 0, .int .i64 0, .int .i64 0] (0, 0) _ rfl X.out Try.underlying23 rfl (by kernel_rfl)) rfl ?_
  exact ⟨rfl, Y.out⟩

end Go.Proofs.Ytfcndldobjpbnaa
