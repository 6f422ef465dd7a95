/- A picture seen through a map: what is refused. (printed by genY.py) -/
import Derived.Test.YtfcndldobjpbnaaX
namespace Go.Proofs.Ytfcndldobjpbnaa
open Go.RowKit Go.Maps
set_option linter.unusedVariables false

structure DoorP (w : World) (A B R : Nat) (W H : Int) (a : Option Addr) (n c : Nat) (m : Af.M) (w' : World) : Prop where
  pic : PicB w' A 44 W H a n c
  map : Six w' B 23 m
  res : PicB w' R 44 0 0 none 0 0
  keeps : Keeps none' w w'
  low : w.heap.size ≤ R
theorem DoorP.later {w w1 w2 : World} {A B R : Nat} {W H : Int} {a : Option Addr} {n c : Nat} {m : Af.M} (h : DoorP w A B R W H a n c m w1) (k : Keeps none' w1 w2) : DoorP w A B R W H a n c m w2 := ⟨h.pic.later k, h.map.later k, h.res.later k, h.keeps.next k, h.low⟩
theorem DoorP.new (w : World) (W H : Int) (a : Option Addr) (n c : Nat) (m : Af.M) : DoorP w w.heap.size (w.heap.size + 1) (w.heap.size + 1 + 1) W H a n c m (((w.alloc (.cells #[.int .i64 W, .int .i64 H, .slice a n c] 44)).alloc (.cells #[.int .i64 m.a, .int .i64 m.b, .int .i64 m.c, .int .i64 m.d, .int .i64 m.e, .int .i64 m.f] 23)).alloc (.cells #[.int .i64 0, .int .i64 0, .slice none 0 0] 44)) := by
  refine ⟨((PicB.new _ _ _ _ _ _ _).alloc _).alloc _, ?_, ?_, (((Keeps.refl _ _).alloc _).alloc _).alloc _, by omega⟩
  · have := (Six.new (w.alloc (.cells #[.int .i64 W, .int .i64 H, .slice a n c] 44)) 23 m).alloc (.cells #[.int .i64 0, .int .i64 0, .slice none 0 0] 44)
    simpa using this
  · have := PicB.new ((w.alloc (.cells #[.int .i64 W, .int .i64 H, .slice a n c] 44)).alloc (.cells #[.int .i64 m.a, .int .i64 m.b, .int .i64 m.c, .int .i64 m.d, .int .i64 m.e, .int .i64 m.f] 23)) 44 0 0 none 0 0
    simpa using this
set_option maxRecDepth 100000 in
set_option maxHeartbeats 3200000 in
theorem seeP_flat (W H : Int) (a : Option Addr) (n c : Nat) (zs : List Int) (m : Af.M) (pw ph : Int) (s : Bool) (w : World) (hb : (Af.backE m).2 ≠ 0) :
    Calls Try.prog 22 #[.agg #[.int .i64 W, .int .i64 H, .slice a n c], .agg #[.int .i64 m.a, .int .i64 m.b, .int .i64 m.c, .int .i64 m.d, .int .i64 m.e, .int .i64 m.f], .int .i64 pw, .int .i64 ph, .bool s] w (SeeNo (Af.backE m).2 w) := by
  have BK := Lib.hid (fun w => back_any m w)
  obtain ⟨z, hz⟩ : ∃ z, (Af.backE m).2 = z := ⟨_, rfl⟩
  obtain ⟨q, hq⟩ : ∃ q, (Af.backE m).1 = q := ⟨_, rfl⟩
  rw [hz] at hb
  rw [hz, hq] at BK
  rw [hz]
  clear hz hq
  have t1 : (z != 0) = true := by simpa using hb
  have t2 : decide (z = 0) = false := by simpa using hb
  clear hb
  have E0 := Lib.hid (DoorP.new w W H a n c m)
  go_enter Try.func22, Try.ntmps22
  go_upto_region 1 with (fail)
  obtain ⟨A, hA⟩ : ∃ A, A = w.heap.size := ⟨_, rfl⟩
  obtain ⟨B, hB⟩ : ∃ B, B = A + 1 := ⟨_, rfl⟩
  obtain ⟨R, hR⟩ : ∃ R, R = B + 1 := ⟨_, rfl⟩
  rw [← hA, ← hB, ← hR] at E0
  rw [← hA, ← hB, ← hR]
  clear hA hB hR
  generalize ((w.alloc (.cells #[.int .i64 W, .int .i64 H, .slice a n c] 44)).alloc (.cells #[.int .i64 m.a, .int .i64 m.b, .int .i64 m.c, .int .i64 m.d, .int .i64 m.e, .int .i64 m.f] 23)).alloc (.cells #[.int .i64 0, .int .i64 0, .slice none 0 0] 44) = w1 at *
  have c0 := E0.out.map.c0
  have c1 := E0.out.map.c1
  have c2 := E0.out.map.c2
  have c3 := E0.out.map.c3
  have c4 := E0.out.map.c4
  have c5 := E0.out.map.c5
  go_wp2_with fail
  refine (BK.out _).mono ?_
  rintro e w2 ⟨rfl, hk⟩
  have E1 := Lib.hid ((E0.out.later hk).later (keeps_alloc (o := .cells #[.int .i64 q.a, .int .i64 q.b, .int .i64 q.c, .int .i64 q.d, .int .i64 q.e, .int .i64 q.f] 23) rfl))
  have Y0 := Lib.hid (Six.new w2 23 q)
  clear hk E0 c0 c1 c2 c3 c4 c5 BK
  go_upto_region 2 with (fail)
  have E2 := Lib.hid E1.out
  clear E1 Y0
  generalize w2.alloc (.cells #[.int .i64 q.a, .int .i64 q.b, .int .i64 q.c, .int .i64 q.d, .int .i64 q.e, .int .i64 q.f] 23) = w3 at *
  generalize w2.heap.size = D at *
  have r0 := E2.out.res.c0
  have r1 := E2.out.res.c1
  have r2 := E2.out.res.c2
  have f0 := E2.out.res.fr (i := 0)
  have f1 := E2.out.res.fr (i := 1)
  have f2 := E2.out.res.fr (i := 2)
  have X := Lib.hid (E2.out.res.all 0 0 none 0 0)
  have Y := Lib.hid (E2.out.keeps.pic E2.out.low 0 0 none 0 0)
  go_wp2_with fail
  refine bodyPost_ret (results_cell_row2 rfl _ _ R 44 #[.int .i64 0, .int .i64 0, .slice none 0 0] (0, 0) _ rfl X.out Try.underlying44 rfl (by kernel_rfl)) rfl ?_
  exact ⟨rfl, Y.out⟩
set_option maxRecDepth 100000 in
set_option maxHeartbeats 3200000 in
theorem seeP_size (W H : Int) (a : Option Addr) (n c : Nat) (zs : List Int) (m : Af.M) (pw ph : Int) (s : Bool) (w : World) (hb : (Af.backE m).2 = 0) (hs : ¬ Af.sizeOk pw ph) :
    Calls Try.prog 22 #[.agg #[.int .i64 W, .int .i64 H, .slice a n c], .agg #[.int .i64 m.a, .int .i64 m.b, .int .i64 m.c, .int .i64 m.d, .int .i64 m.e, .int .i64 m.f], .int .i64 pw, .int .i64 ph, .bool s] w (SeeNo 31 w) := by
  have BK := Lib.hid (fun w => back_any m w)
  have hb2 := (Af.back_ok hb).2.2.2
  obtain ⟨q, hq⟩ : ∃ q, (Af.backE m).1 = q := ⟨_, rfl⟩
  rw [hb, hq] at BK
  clear hb hb2 hq
  have E0 := Lib.hid (DoorP.new w W H a n c m)
  go_enter Try.func22, Try.ntmps22
  go_upto_region 1 with (fail)
  obtain ⟨A, hA⟩ : ∃ A, A = w.heap.size := ⟨_, rfl⟩
  obtain ⟨B, hB⟩ : ∃ B, B = A + 1 := ⟨_, rfl⟩
  obtain ⟨R, hR⟩ : ∃ R, R = B + 1 := ⟨_, rfl⟩
  rw [← hA, ← hB, ← hR] at E0
  rw [← hA, ← hB, ← hR]
  clear hA hB hR
  generalize ((w.alloc (.cells #[.int .i64 W, .int .i64 H, .slice a n c] 44)).alloc (.cells #[.int .i64 m.a, .int .i64 m.b, .int .i64 m.c, .int .i64 m.d, .int .i64 m.e, .int .i64 m.f] 23)).alloc (.cells #[.int .i64 0, .int .i64 0, .slice none 0 0] 44) = w1 at *
  have c0 := E0.out.map.c0
  have c1 := E0.out.map.c1
  have c2 := E0.out.map.c2
  have c3 := E0.out.map.c3
  have c4 := E0.out.map.c4
  have c5 := E0.out.map.c5
  go_wp2_with fail
  refine (BK.out _).mono ?_
  rintro e w2 ⟨rfl, hk⟩
  have E1 := Lib.hid ((E0.out.later hk).later (keeps_alloc (o := .cells #[.int .i64 q.a, .int .i64 q.b, .int .i64 q.c, .int .i64 q.d, .int .i64 q.e, .int .i64 q.f] 23) rfl))
  have Y0 := Lib.hid (Six.new w2 23 q)
  clear hk E0 c0 c1 c2 c3 c4 c5 BK
  go_upto_region 4 with (fail)
  have E2 := Lib.hid E1.out
  clear E1 Y0
  generalize w2.alloc (.cells #[.int .i64 q.a, .int .i64 q.b, .int .i64 q.c, .int .i64 q.d, .int .i64 q.e, .int .i64 q.f] 23) = w3 at *
  generalize w2.heap.size = D at *
  by_cases hw : Side pw
  · have S1 := Lib.hid (fun w => side_yes hw w)
    by_cases hh : Side ph
    · have S2 := Lib.hid (fun w => side_yes hh w)
      obtain ⟨p0, p1⟩ := area_side hw hh
      have wr := wrap_i64 (pw * ph) (by omega) (by omega)
      have t1 : decide (4194304 < pw * ph) = true := by
        have : ¬ pw * ph ≤ 4194304 := fun h => hs ⟨hw, hh, h⟩
        simp; omega
      clear hs hw hh p0 p1
      go_wp2_with fail
      refine (S1.out _).mono ?_
      rintro e w3 ⟨rfl, rfl⟩
      go_wp2_with fail
      refine (S2.out _).mono ?_
      rintro e w3 ⟨rfl, rfl⟩
      have r0 := E2.out.res.c0
      have r1 := E2.out.res.c1
      have r2 := E2.out.res.c2
      have f0 := E2.out.res.fr (i := 0)
      have f1 := E2.out.res.fr (i := 1)
      have f2 := E2.out.res.fr (i := 2)
      have X := Lib.hid (E2.out.res.all 0 0 none 0 0)
      have Y := Lib.hid (E2.out.keeps.pic E2.out.low 0 0 none 0 0)
      go_wp2_with fail
      refine bodyPost_ret (results_cell_row2 rfl _ _ R 44 #[.int .i64 0, .int .i64 0, .slice none 0 0] (0, 0) _ rfl X.out Try.underlying44 rfl (by kernel_rfl)) rfl ?_
      exact ⟨rfl, Y.out⟩
    · have S2 := Lib.hid (fun w => side_no hh w)
      clear hs hw hh
      go_wp2_with fail
      refine (S1.out _).mono ?_
      rintro e w3 ⟨rfl, rfl⟩
      go_wp2_with fail
      refine (S2.out _).mono ?_
      rintro e w3 ⟨rfl, rfl⟩
      have r0 := E2.out.res.c0
      have r1 := E2.out.res.c1
      have r2 := E2.out.res.c2
      have f0 := E2.out.res.fr (i := 0)
      have f1 := E2.out.res.fr (i := 1)
      have f2 := E2.out.res.fr (i := 2)
      have X := Lib.hid (E2.out.res.all 0 0 none 0 0)
      have Y := Lib.hid (E2.out.keeps.pic E2.out.low 0 0 none 0 0)
      go_wp2_with fail
      refine bodyPost_ret (results_cell_row2 rfl _ _ R 44 #[.int .i64 0, .int .i64 0, .slice none 0 0] (0, 0) _ rfl X.out Try.underlying44 rfl (by kernel_rfl)) rfl ?_
      exact ⟨rfl, Y.out⟩
  · have S1 := Lib.hid (fun w => side_no hw w)
    clear hs hw
    go_wp2_with fail
    refine (S1.out _).mono ?_
    rintro e w3 ⟨rfl, rfl⟩
    have r0 := E2.out.res.c0
    have r1 := E2.out.res.c1
    have r2 := E2.out.res.c2
    have f0 := E2.out.res.fr (i := 0)
    have f1 := E2.out.res.fr (i := 1)
    have f2 := E2.out.res.fr (i := 2)
    have X := Lib.hid (E2.out.res.all 0 0 none 0 0)
    have Y := Lib.hid (E2.out.keeps.pic E2.out.low 0 0 none 0 0)
    go_wp2_with fail
    refine bodyPost_ret (results_cell_row2 rfl _ _ R 44 #[.int .i64 0, .int .i64 0, .slice none 0 0] (0, 0) _ rfl X.out Try.underlying44 rfl (by kernel_rfl)) rfl ?_
    exact ⟨rfl, Y.out⟩
set_option maxRecDepth 100000 in
set_option maxHeartbeats 3200000 in
theorem seeP_form (W H : Int) (a : Option Addr) (n c : Nat) (zs : List Int) (m : Af.M) (pw ph : Int) (s : Bool) (w : World) (hb : (Af.backE m).2 = 0) (hs : Af.sizeOk pw ph) (hz : Ints w a n zs) (hn : n ≤ 16777216) (hp : ¬ PicOk W H zs) :
    Calls Try.prog 22 #[.agg #[.int .i64 W, .int .i64 H, .slice a n c], .agg #[.int .i64 m.a, .int .i64 m.b, .int .i64 m.c, .int .i64 m.d, .int .i64 m.e, .int .i64 m.f], .int .i64 pw, .int .i64 ph, .bool s] w (SeeNo 25 w) := by
  have BK := Lib.hid (fun w => back_any m w)
  have hb2 := (Af.back_ok hb).2.2.2
  obtain ⟨q, hq⟩ : ∃ q, (Af.backE m).1 = q := ⟨_, rfl⟩
  rw [hb, hq] at BK
  clear hb hb2 hq
  have S1 := Lib.hid (fun w => side_yes hs.1 w)
  have S2 := Lib.hid (fun w => side_yes hs.2.1 w)
  obtain ⟨p0, p1⟩ := area_side hs.1 hs.2.1
  have wr := wrap_i64 (pw * ph) (by omega) (by omega)
  have t1 : decide (4194304 < pw * ph) = false := by have := hs.2.2; simp; omega
  have IR := Lib.hid (fun w' (k : Keeps none' w w') => isRight_any W H a n c zs w' (hz.later k) hn false ⟨(fun h => (by cases h)), fun h => absurd h hp⟩)
  clear hs hz hn hp p0 p1
  have E0 := Lib.hid (DoorP.new w W H a n c m)
  go_enter Try.func22, Try.ntmps22
  go_upto_region 1 with (fail)
  obtain ⟨A, hA⟩ : ∃ A, A = w.heap.size := ⟨_, rfl⟩
  obtain ⟨B, hB⟩ : ∃ B, B = A + 1 := ⟨_, rfl⟩
  obtain ⟨R, hR⟩ : ∃ R, R = B + 1 := ⟨_, rfl⟩
  rw [← hA, ← hB, ← hR] at E0
  rw [← hA, ← hB, ← hR]
  clear hA hB hR
  generalize ((w.alloc (.cells #[.int .i64 W, .int .i64 H, .slice a n c] 44)).alloc (.cells #[.int .i64 m.a, .int .i64 m.b, .int .i64 m.c, .int .i64 m.d, .int .i64 m.e, .int .i64 m.f] 23)).alloc (.cells #[.int .i64 0, .int .i64 0, .slice none 0 0] 44) = w1 at *
  have c0 := E0.out.map.c0
  have c1 := E0.out.map.c1
  have c2 := E0.out.map.c2
  have c3 := E0.out.map.c3
  have c4 := E0.out.map.c4
  have c5 := E0.out.map.c5
  go_wp2_with fail
  refine (BK.out _).mono ?_
  rintro e w2 ⟨rfl, hk⟩
  have E1 := Lib.hid ((E0.out.later hk).later (keeps_alloc (o := .cells #[.int .i64 q.a, .int .i64 q.b, .int .i64 q.c, .int .i64 q.d, .int .i64 q.e, .int .i64 q.f] 23) rfl))
  have Y0 := Lib.hid (Six.new w2 23 q)
  clear hk E0 c0 c1 c2 c3 c4 c5 BK
  go_upto_region 4 with (fail)
  have E2 := Lib.hid E1.out
  clear E1 Y0
  generalize w2.alloc (.cells #[.int .i64 q.a, .int .i64 q.b, .int .i64 q.c, .int .i64 q.d, .int .i64 q.e, .int .i64 q.f] 23) = w3 at *
  generalize w2.heap.size = D at *
  have k0 := E2.out.pic.c0
  have k1 := E2.out.pic.c1
  have k2 := E2.out.pic.c2
  go_wp2_with fail
  refine (S1.out _).mono ?_
  rintro e w3 ⟨rfl, rfl⟩
  go_wp2_with fail
  refine (S2.out _).mono ?_
  rintro e w3 ⟨rfl, rfl⟩
  go_wp2_with fail
  refine (IR.out _ E2.out.keeps).mono ?_
  rintro e w4 ⟨rfl, hk⟩
  have E3 := Lib.hid (E2.out.later hk)
  clear hk E2 k0 k1 k2 IR
  have r0 := E3.out.res.c0
  have r1 := E3.out.res.c1
  have r2 := E3.out.res.c2
  have f0 := E3.out.res.fr (i := 0)
  have f1 := E3.out.res.fr (i := 1)
  have f2 := E3.out.res.fr (i := 2)
  have X := Lib.hid (E3.out.res.all 0 0 none 0 0)
  have Y := Lib.hid (E3.out.keeps.pic E3.out.low 0 0 none 0 0)
  go_wp2_with fail
  refine bodyPost_ret (results_cell_row2 rfl _ _ R 44 #[.int .i64 0, .int .i64 0, .slice none 0 0] (0, 0) _ rfl X.out Try.underlying44 rfl (by kernel_rfl)) rfl ?_
  exact ⟨rfl, Y.out⟩
end Go.Proofs.Ytfcndldobjpbnaa
