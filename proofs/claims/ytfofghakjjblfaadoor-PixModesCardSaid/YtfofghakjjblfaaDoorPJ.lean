/- The program's Blend. -/
import Derived.Test.YtfofghakjjblfaaDoorPH
namespace Go.Proofs.YtfofghakjjblfaaDoor
open Go.RowKit
set_option linter.unusedVariables false

section
variable {w : World} {S D R L : Nat} {s d : Px.Pix} {x y z a : Int} {wr : World}
theorem Lay.drewN (h : Lay w S D R L s d x y z a wr) (n : Nat) : Lay w S D R L s d x y z a (wr.drewN n) := ⟨h.src, h.gnd, h.res, h.on, h.keeps.drewN n⟩
theorem Lay.r0 (h : Lay w S D R L s d x y z a wr) (p : Apart w S D R L) (v : Int) : Lay w S D R L s d v y z a (wr.setCell ⟨L, 0, none⟩ (.int .i64 v)) := by
  obtain ⟨p1, p2, p3, p4⟩ := p
  exact ⟨h.src.set (by omega) _, h.gnd.set (by omega) _, h.res.set (by omega) _, h.on.s0 v, h.keeps.setCell (fun e => by simp only at e; omega) _⟩
theorem Lay.r1 (h : Lay w S D R L s d x y z a wr) (p : Apart w S D R L) (v : Int) : Lay w S D R L s d x v z a (wr.setCell ⟨L, 1, none⟩ (.int .i64 v)) := by
  obtain ⟨p1, p2, p3, p4⟩ := p
  exact ⟨h.src.set (by omega) _, h.gnd.set (by omega) _, h.res.set (by omega) _, h.on.s1 v, h.keeps.setCell (fun e => by simp only at e; omega) _⟩
theorem Lay.r2 (h : Lay w S D R L s d x y z a wr) (p : Apart w S D R L) (v : Int) : Lay w S D R L s d x y v a (wr.setCell ⟨L, 2, none⟩ (.int .i64 v)) := by
  obtain ⟨p1, p2, p3, p4⟩ := p
  exact ⟨h.src.set (by omega) _, h.gnd.set (by omega) _, h.res.set (by omega) _, h.on.s2 v, h.keeps.setCell (fun e => by simp only at e; omega) _⟩
theorem Lay.r3 (h : Lay w S D R L s d x y z a wr) (p : Apart w S D R L) (v : Int) : Lay w S D R L s d x y z v (wr.setCell ⟨L, 3, none⟩ (.int .i64 v)) := by
  obtain ⟨p1, p2, p3, p4⟩ := p
  exact ⟨h.src.set (by omega) _, h.gnd.set (by omega) _, h.res.set (by omega) _, h.on.s3 v, h.keeps.setCell (fun e => by simp only at e; omega) _⟩
end
theorem sub_byte {a : Int} (h : Px.Byte a) : Px.Byte (255 - a) := by unfold Px.Byte at *; omega
theorem wrap_sub {a : Int} (h : Px.Byte a) : IntKind.i64.wrap (255 - a) = 255 - a := wrap_i64 _ (by unfold Px.Byte at *; omega) (by unfold Px.Byte at *; omega)
theorem wrap_add {a b : Int} (h : Px.Byte a) (k : Px.Byte b) : IntKind.i64.wrap (a + b) = a + b := wrap_i64 _ (by unfold Px.Byte at *; omega) (by unfold Px.Byte at *; omega)

set_option maxRecDepth 100000 in
set_option maxHeartbeats 3200000 in
theorem blend_any (k : Int) (s d : Px.Pix) (hs : s.bytes) (hd : d.bytes) (w : World) :
    Calls Tryd.prog 21 #[.int .i64 k, .agg #[.int .i64 s.r, .int .i64 s.g, .int .i64 s.b, .int .i64 s.a], .agg #[.int .i64 d.r, .int .i64 d.g, .int .i64 d.b, .int .i64 d.a]] w fun e w' =>
    e = .returned (.agg #[.int .i64 (Px.blend k s d).r, .int .i64 (Px.blend k s d).g, .int .i64 (Px.blend k s d).b, .int .i64 (Px.blend k s d).a]) ∧ Keeps none' w w' := by
  have C0 := Lib.hid (fun w => screened_any hd.2.2.2 hs.2.2.2 w)
  rw [show Px.screened d.a s.a = Px.whole s.a d.a from rfl] at C0
  have ha := hs.2.2.2
  have hA := hd.2.2.2
  have X0 := Lib.hid (fun w => bare_any hd.1 hA w)
  have Y0 := Lib.hid (fun w => bare_any hs.1 ha w)
  have P0 := Lib.hid (fun w => mul_any hs.1 (sub_byte hA) w)
  have Q0 := Lib.hid (fun w => mul_any hd.1 (sub_byte ha) w)
  have M0 := Lib.hid (fun w => mixed_any (m := k) (Px.bare_byte hd.1 hA) (Px.bare_byte hs.1 ha) w)
  have T0 := Lib.hid (fun w => mul_any (Px.mul_byte ha hA) (Px.mixed_byte (m := k) (Px.bare_byte hd.1 hA) (Px.bare_byte hs.1 ha)) w)
  have hp0 := Px.mul_byte hs.1 (sub_byte hA)
  have hq0 := Px.mul_byte hd.1 (sub_byte ha)
  have ht0 := Px.mul_byte (Px.mul_byte ha hA) (Px.mixed_byte (m := k) (Px.bare_byte hd.1 hA) (Px.bare_byte hs.1 ha))
  have X1 := Lib.hid (fun w => bare_any hd.2.1 hA w)
  have Y1 := Lib.hid (fun w => bare_any hs.2.1 ha w)
  have P1 := Lib.hid (fun w => mul_any hs.2.1 (sub_byte hA) w)
  have Q1 := Lib.hid (fun w => mul_any hd.2.1 (sub_byte ha) w)
  have M1 := Lib.hid (fun w => mixed_any (m := k) (Px.bare_byte hd.2.1 hA) (Px.bare_byte hs.2.1 ha) w)
  have T1 := Lib.hid (fun w => mul_any (Px.mul_byte ha hA) (Px.mixed_byte (m := k) (Px.bare_byte hd.2.1 hA) (Px.bare_byte hs.2.1 ha)) w)
  have hp1 := Px.mul_byte hs.2.1 (sub_byte hA)
  have hq1 := Px.mul_byte hd.2.1 (sub_byte ha)
  have ht1 := Px.mul_byte (Px.mul_byte ha hA) (Px.mixed_byte (m := k) (Px.bare_byte hd.2.1 hA) (Px.bare_byte hs.2.1 ha))
  have X2 := Lib.hid (fun w => bare_any hd.2.2.1 hA w)
  have Y2 := Lib.hid (fun w => bare_any hs.2.2.1 ha w)
  have P2 := Lib.hid (fun w => mul_any hs.2.2.1 (sub_byte hA) w)
  have Q2 := Lib.hid (fun w => mul_any hd.2.2.1 (sub_byte ha) w)
  have M2 := Lib.hid (fun w => mixed_any (m := k) (Px.bare_byte hd.2.2.1 hA) (Px.bare_byte hs.2.2.1 ha) w)
  have T2 := Lib.hid (fun w => mul_any (Px.mul_byte ha hA) (Px.mixed_byte (m := k) (Px.bare_byte hd.2.2.1 hA) (Px.bare_byte hs.2.2.1 ha)) w)
  have hp2 := Px.mul_byte hs.2.2.1 (sub_byte hA)
  have hq2 := Px.mul_byte hd.2.2.1 (sub_byte ha)
  have ht2 := Px.mul_byte (Px.mul_byte ha hA) (Px.mixed_byte (m := k) (Px.bare_byte hd.2.2.1 hA) (Px.bare_byte hs.2.2.1 ha))
  have B1 := Lib.hid (fun w => mul_any ha hA w)
  have hbt := Px.mul_byte ha hA
  have WA := Lib.hid (wrap_sub hA)
  have WS := Lib.hid (wrap_sub ha)
  have hwb := Px.screened_byte hA ha
  rw [show Px.screened d.a s.a = Px.whole s.a d.a from rfl] at hwb
  unfold Px.blend Px.blended
  simp only
  obtain ⟨lA, uA⟩ := hA
  obtain ⟨lS, uS⟩ := ha
  clear hs hd
  generalize Px.mul (Px.mul s.a d.a) (Px.mixed k (Px.bare d.r d.a) (Px.bare s.r s.a)) = t0 at *
  generalize Px.mixed k (Px.bare d.r d.a) (Px.bare s.r s.a) = m0 at *
  generalize Px.bare d.r d.a = x0 at *
  generalize Px.bare s.r s.a = y0 at *
  generalize Px.mul s.r (255 - d.a) = p0 at *
  generalize Px.mul d.r (255 - s.a) = q0 at *
  generalize Px.mul (Px.mul s.a d.a) (Px.mixed k (Px.bare d.g d.a) (Px.bare s.g s.a)) = t1 at *
  generalize Px.mixed k (Px.bare d.g d.a) (Px.bare s.g s.a) = m1 at *
  generalize Px.bare d.g d.a = x1 at *
  generalize Px.bare s.g s.a = y1 at *
  generalize Px.mul s.g (255 - d.a) = p1 at *
  generalize Px.mul d.g (255 - s.a) = q1 at *
  generalize Px.mul (Px.mul s.a d.a) (Px.mixed k (Px.bare d.b d.a) (Px.bare s.b s.a)) = t2 at *
  generalize Px.mixed k (Px.bare d.b d.a) (Px.bare s.b s.a) = m2 at *
  generalize Px.bare d.b d.a = x2 at *
  generalize Px.bare s.b s.a = y2 at *
  generalize Px.mul s.b (255 - d.a) = p2 at *
  generalize Px.mul d.b (255 - s.a) = q2 at *
  generalize Px.mul s.a d.a = bt at *
  generalize Px.whole s.a d.a = wh at *
  generalize hv0 : min (p0 + q0 + t0) wh = v0 at *
  have V0 := Lib.hid (show (if wh < p0 + q0 + t0 then wh else p0 + q0 + t0) = v0 by omega)
  clear hv0
  have E0 := Lib.hid (wrap_add hp0 hq0)
  obtain ⟨lp0, up0⟩ := hp0
  obtain ⟨lq0, uq0⟩ := hq0
  obtain ⟨lt0, ut0⟩ := ht0
  generalize hv1 : min (p1 + q1 + t1) wh = v1 at *
  have V1 := Lib.hid (show (if wh < p1 + q1 + t1 then wh else p1 + q1 + t1) = v1 by omega)
  clear hv1
  have E1 := Lib.hid (wrap_add hp1 hq1)
  obtain ⟨lp1, up1⟩ := hp1
  obtain ⟨lq1, uq1⟩ := hq1
  obtain ⟨lt1, ut1⟩ := ht1
  generalize hv2 : min (p2 + q2 + t2) wh = v2 at *
  have V2 := Lib.hid (show (if wh < p2 + q2 + t2 then wh else p2 + q2 + t2) = v2 by omega)
  clear hv2
  have E2 := Lib.hid (wrap_add hp2 hq2)
  obtain ⟨lp2, up2⟩ := hp2
  obtain ⟨lq2, uq2⟩ := hq2
  obtain ⟨lt2, ut2⟩ := ht2
  obtain ⟨lw, uw⟩ := hwb
  obtain ⟨lb, ub⟩ := hbt
  obtain ⟨F1, F2, F3⟩ := three_new w s d
  have K1 := Lib.hid ((((Keeps.refl none' w).alloc (.cells #[.int .i64 s.r, .int .i64 s.g, .int .i64 s.b, .int .i64 s.a] 26)).alloc (.cells #[.int .i64 d.r, .int .i64 d.g, .int .i64 d.b, .int .i64 d.a] 26)).alloc (.cells #[.int .i64 0, .int .i64 0, .int .i64 0, .int .i64 0] 26))
  have c3s := F1.c3
  have c3d := F2.c3
  have G1 := Lib.hid F1
  have G2 := Lib.hid F2
  have G3 := Lib.hid F3
  clear F1 F2 F3
  go_enter Tryd.func21, Tryd.ntmps21
  go_wp2_with fail
  refine (C0.out _).mono ?_
  rintro e w' ⟨rfl, rfl⟩
  go_wp2_with fail
  refine (B1.out _).mono ?_
  rintro e w' ⟨rfl, rfl⟩
  go_wp2_with fail
  have AQ : Apart w w.heap.size (w.heap.size + 1) (w.heap.size + 1 + 1) (w.heap.size + 1 + 1 + 1) := ⟨by omega, by omega, by omega, by omega⟩
  have L0 : Lay w w.heap.size (w.heap.size + 1) (w.heap.size + 1 + 1) (w.heap.size + 1 + 1 + 1) s d 0 0 0 wh ((((w.alloc (.cells #[.int .i64 s.r, .int .i64 s.g, .int .i64 s.b, .int .i64 s.a] 26)).alloc (.cells #[.int .i64 d.r, .int .i64 d.g, .int .i64 d.b, .int .i64 d.a] 26)).alloc (.cells #[.int .i64 0, .int .i64 0, .int .i64 0, .int .i64 0] 26)).alloc (.cells #[.int .i64 0, .int .i64 0, .int .i64 0, .int .i64 wh] 26)) :=
    ⟨G1.out.alloc _, G2.out.alloc _, G3.out.alloc _, by have := Four.new (((w.alloc (.cells #[.int .i64 s.r, .int .i64 s.g, .int .i64 s.b, .int .i64 s.a] 26)).alloc (.cells #[.int .i64 d.r, .int .i64 d.g, .int .i64 d.b, .int .i64 d.a] 26)).alloc (.cells #[.int .i64 0, .int .i64 0, .int .i64 0, .int .i64 0] 26)) 0 0 0 wh; simpa using this, K1.out.alloc _⟩
  clear c3s c3d G1 G2 G3 K1
  generalize (((w.alloc (.cells #[.int .i64 s.r, .int .i64 s.g, .int .i64 s.b, .int .i64 s.a] 26)).alloc (.cells #[.int .i64 d.r, .int .i64 d.g, .int .i64 d.b, .int .i64 d.a] 26)).alloc (.cells #[.int .i64 0, .int .i64 0, .int .i64 0, .int .i64 0] 26)).alloc (.cells #[.int .i64 0, .int .i64 0, .int .i64 0, .int .i64 wh] 26) = wd at *
  generalize w.heap.size + 1 + 1 + 1 = L at *
  generalize w.heap.size + 1 + 1 = R at *
  generalize w.heap.size + 1 = D at *
  generalize w.heap.size = S at *
  have AQ := Lib.hid AQ
  have L0 := Lib.hid L0
  go_loopw [26] (Cnt3 (Lay w S D R L s d 0 0 0 wh) (Lay w S D R L s d v0 0 0 wh) (Lay w S D R L s d v0 v1 0 wh) (Lay w S D R L s d v0 v1 v2 wh)) (fun cnt _ => 3 - (intOf cnt).toNat)
  case atStart => exact .inl ⟨rfl, L0.out⟩
  case round =>
    rcases hrel with ⟨rfl, hW⟩ | ⟨rfl, hW⟩ | ⟨rfl, hW⟩ | ⟨rfl, hW⟩
    · have s0 := hW.src.c0
      have d0 := hW.gnd.c0
      have s3 := hW.src.c3
      have d3 := hW.gnd.c3
      have HW := Lib.hid hW
      clear hW
      go_wp2_with fail
      go_quiet (first | (go_at_call_of 16 (d.r); refine Calls.quiet_of_same (X0.out _)) | (go_at_call_of 16 (s.r); refine Calls.quiet_of_same (Y0.out _)))
      clear s0 d0 s3 d3
      have HW2 := Lib.hid (HW.out.drewN nq)
      clear HW
      generalize wr.drewN nq = wq at *
      have s0 := HW2.out.src.c0
      have d0 := HW2.out.gnd.c0
      have s3 := HW2.out.src.c3
      have d3 := HW2.out.gnd.c3
      have e1 := WA.out
      have e2 := WS.out
      have e3 := E0.out
      go_wp2_with fail
      go_quiet (first | (go_at_call_of 14 (d.r); refine Calls.quiet_of_same (Q0.out _)) | (go_at_call_of 14 (s.r); refine Calls.quiet_of_same (P0.out _)))
      clear s0 d0 s3 d3 e1 e2 e3
      have HW := Lib.hid (HW2.out.drewN nq)
      clear HW2
      generalize wq.drewN nq = wz at *
      have f0 := HW.out.on.fr (i := 0)
      have o0 := HW.out.on.c0
      have X := Lib.hid (HW.out.r0 AQ.out v0)
      have e4 := V0.out
      go_wp2_with fail
      refine (M0.out _).mono ?_
      rintro e w' ⟨rfl, rfl⟩
      go_wp2_with fail
      refine (T0.out _).mono ?_
      rintro e w' ⟨rfl, rfl⟩
      go_wp2_with fail
      go_roundw
      case rel => exact .inr (.inl ⟨rfl, X.out⟩)
      case measure => decide
    · have s1 := hW.src.c1
      have d1 := hW.gnd.c1
      have s3 := hW.src.c3
      have d3 := hW.gnd.c3
      have HW := Lib.hid hW
      clear hW
      go_wp2_with fail
      go_quiet (first | (go_at_call_of 16 (d.g); refine Calls.quiet_of_same (X1.out _)) | (go_at_call_of 16 (s.g); refine Calls.quiet_of_same (Y1.out _)))
      clear s1 d1 s3 d3
      have HW2 := Lib.hid (HW.out.drewN nq)
      clear HW
      generalize wr.drewN nq = wq at *
      have s1 := HW2.out.src.c1
      have d1 := HW2.out.gnd.c1
      have s3 := HW2.out.src.c3
      have d3 := HW2.out.gnd.c3
      have e1 := WA.out
      have e2 := WS.out
      have e3 := E1.out
      go_wp2_with fail
      go_quiet (first | (go_at_call_of 14 (d.g); refine Calls.quiet_of_same (Q1.out _)) | (go_at_call_of 14 (s.g); refine Calls.quiet_of_same (P1.out _)))
      clear s1 d1 s3 d3 e1 e2 e3
      have HW := Lib.hid (HW2.out.drewN nq)
      clear HW2
      generalize wq.drewN nq = wz at *
      have f0 := HW.out.on.fr (i := 1)
      have o0 := HW.out.on.c1
      have X := Lib.hid (HW.out.r1 AQ.out v1)
      have e4 := V1.out
      go_wp2_with fail
      refine (M1.out _).mono ?_
      rintro e w' ⟨rfl, rfl⟩
      go_wp2_with fail
      refine (T1.out _).mono ?_
      rintro e w' ⟨rfl, rfl⟩
      go_wp2_with fail
      go_roundw
      case rel => exact .inr (.inr (.inl ⟨rfl, X.out⟩))
      case measure => decide
    · have s2 := hW.src.c2
      have d2 := hW.gnd.c2
      have s3 := hW.src.c3
      have d3 := hW.gnd.c3
      have HW := Lib.hid hW
      clear hW
      go_wp2_with fail
      go_quiet (first | (go_at_call_of 16 (d.b); refine Calls.quiet_of_same (X2.out _)) | (go_at_call_of 16 (s.b); refine Calls.quiet_of_same (Y2.out _)))
      clear s2 d2 s3 d3
      have HW2 := Lib.hid (HW.out.drewN nq)
      clear HW
      generalize wr.drewN nq = wq at *
      have s2 := HW2.out.src.c2
      have d2 := HW2.out.gnd.c2
      have s3 := HW2.out.src.c3
      have d3 := HW2.out.gnd.c3
      have e1 := WA.out
      have e2 := WS.out
      have e3 := E2.out
      go_wp2_with fail
      go_quiet (first | (go_at_call_of 14 (d.b); refine Calls.quiet_of_same (Q2.out _)) | (go_at_call_of 14 (s.b); refine Calls.quiet_of_same (P2.out _)))
      clear s2 d2 s3 d3 e1 e2 e3
      have HW := Lib.hid (HW2.out.drewN nq)
      clear HW2
      generalize wq.drewN nq = wz at *
      have f0 := HW.out.on.fr (i := 2)
      have o0 := HW.out.on.c2
      have X := Lib.hid (HW.out.r2 AQ.out v2)
      have e4 := V2.out
      go_wp2_with fail
      refine (M2.out _).mono ?_
      rintro e w' ⟨rfl, rfl⟩
      go_wp2_with fail
      refine (T2.out _).mono ?_
      rintro e w' ⟨rfl, rfl⟩
      go_wp2_with fail
      go_roundw
      case rel => exact .inr (.inr (.inr (⟨rfl, X.out⟩)))
      case measure => decide
    · have c0 := hW.on.c0
      have c1 := hW.on.c1
      have c2 := hW.on.c2
      have c3 := hW.on.c3
      have f0 := hW.res.fr (i := 0)
      have f1 := hW.res.fr (i := 1)
      have f2 := hW.res.fr (i := 2)
      have f3 := hW.res.fr (i := 3)
      have z0 := hW.res.c0
      have z1 := hW.res.c1
      have z2 := hW.res.c2
      have z3 := hW.res.c3
      have h := Lib.hid (hW.put AQ.out)
      clear hW
      go_wp2_with fail
      refine bodyPost_ret (results_cell_row rfl _ _ R 26 #[.int .i64 v0, .int .i64 v1, .int .i64 v2, .int .i64 wh] (0, 0) _ rfl h.out.1 Tryd.underlying26 rfl (by kernel_rfl)) rfl ?_
      exact ⟨rfl, h.out.2⟩
end Go.Proofs.YtfofghakjjblfaaDoor
