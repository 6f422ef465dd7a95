/- The document's Blend. -/
import Derived.Test.YtfofghakjjblfaaDoorPJ
namespace Go.Proofs.YtfofghakjjblfaaDoor
open Go.RowKit
set_option linter.unusedVariables false

theorem wrap_add3 {a b c : Int} (h : Px.Byte a) (k : Px.Byte b) (l : Px.Byte c) : IntKind.i64.wrap (a + b + c) = a + b + c := wrap_i64 _ (by unfold Px.Byte at *; omega) (by unfold Px.Byte at *; omega)
set_option maxRecDepth 100000 in
set_option maxHeartbeats 3200000 in
theorem docBlend_any (k : Int) (s d : Px.Pix) (hs : s.bytes) (hd : d.bytes) (w : World) :
    Calls Tryd.prog 22 #[.int .i64 k, .agg #[.int .i64 s.r, .int .i64 s.g, .int .i64 s.b, .int .i64 s.a], .agg #[.int .i64 d.r, .int .i64 d.g, .int .i64 d.b, .int .i64 d.a]] w fun e w' =>
    e = .returned (.agg #[.int .i64 (Px.blend k s d).r, .int .i64 (Px.blend k s d).g, .int .i64 (Px.blend k s d).b, .int .i64 (Px.blend k s d).a]) ∧ Keeps none' w w' := by
  have ha := hs.2.2.2
  have hA := hd.2.2.2
  have X0 := Lib.hid (fun w => docBare_any hd.1 hA w)
  have Y0 := Lib.hid (fun w => docBare_any hs.1 ha w)
  have P0 := Lib.hid (fun w => docMul_any hs.1 (sub_byte hA) w)
  have Q0 := Lib.hid (fun w => docMul_any hd.1 (sub_byte ha) w)
  have M0 := Lib.hid (fun w => B_any (m := k) (Px.bare_byte hd.1 hA) (Px.bare_byte hs.1 ha) w)
  have T0 := Lib.hid (fun w => docMul_any (Px.mul_byte ha hA) (Px.mixed_byte (m := k) (Px.bare_byte hd.1 hA) (Px.bare_byte hs.1 ha)) w)
  have hp0 := Px.mul_byte hs.1 (sub_byte hA)
  have hq0 := Px.mul_byte hd.1 (sub_byte ha)
  have ht0 := Px.mul_byte (Px.mul_byte ha hA) (Px.mixed_byte (m := k) (Px.bare_byte hd.1 hA) (Px.bare_byte hs.1 ha))
  have X1 := Lib.hid (fun w => docBare_any hd.2.1 hA w)
  have Y1 := Lib.hid (fun w => docBare_any hs.2.1 ha w)
  have P1 := Lib.hid (fun w => docMul_any hs.2.1 (sub_byte hA) w)
  have Q1 := Lib.hid (fun w => docMul_any hd.2.1 (sub_byte ha) w)
  have M1 := Lib.hid (fun w => B_any (m := k) (Px.bare_byte hd.2.1 hA) (Px.bare_byte hs.2.1 ha) w)
  have T1 := Lib.hid (fun w => docMul_any (Px.mul_byte ha hA) (Px.mixed_byte (m := k) (Px.bare_byte hd.2.1 hA) (Px.bare_byte hs.2.1 ha)) w)
  have hp1 := Px.mul_byte hs.2.1 (sub_byte hA)
  have hq1 := Px.mul_byte hd.2.1 (sub_byte ha)
  have ht1 := Px.mul_byte (Px.mul_byte ha hA) (Px.mixed_byte (m := k) (Px.bare_byte hd.2.1 hA) (Px.bare_byte hs.2.1 ha))
  have X2 := Lib.hid (fun w => docBare_any hd.2.2.1 hA w)
  have Y2 := Lib.hid (fun w => docBare_any hs.2.2.1 ha w)
  have P2 := Lib.hid (fun w => docMul_any hs.2.2.1 (sub_byte hA) w)
  have Q2 := Lib.hid (fun w => docMul_any hd.2.2.1 (sub_byte ha) w)
  have M2 := Lib.hid (fun w => B_any (m := k) (Px.bare_byte hd.2.2.1 hA) (Px.bare_byte hs.2.2.1 ha) w)
  have T2 := Lib.hid (fun w => docMul_any (Px.mul_byte ha hA) (Px.mixed_byte (m := k) (Px.bare_byte hd.2.2.1 hA) (Px.bare_byte hs.2.2.1 ha)) w)
  have hp2 := Px.mul_byte hs.2.2.1 (sub_byte hA)
  have hq2 := Px.mul_byte hd.2.2.1 (sub_byte ha)
  have ht2 := Px.mul_byte (Px.mul_byte ha hA) (Px.mixed_byte (m := k) (Px.bare_byte hd.2.2.1 hA) (Px.bare_byte hs.2.2.1 ha))
  have B1 := Lib.hid (fun w => docMul_any ha hA w)
  have hbt := Px.mul_byte ha hA
  have e0 : s.a + d.a - Px.mul s.a d.a = Px.whole s.a d.a := by unfold Px.whole Px.screened; rw [Px.mul_comm d.a s.a]; omega
  have WA := Lib.hid (wrap_sub hA)
  have WS := Lib.hid (wrap_sub ha)
  have hwb := Px.screened_byte hA ha
  rw [show Px.screened d.a s.a = Px.whole s.a d.a from rfl] at hwb
  unfold Px.blend Px.blended
  simp only
  obtain ⟨lA, uA⟩ := hA
  obtain ⟨lS, uS⟩ := ha
  clear hs hd
  generalize Px.mul (Px.mul s.a d.a) (Px.mixed k (Px.bare d.r d.a) (Px.bare s.r s.a)) = t0 at *
  generalize Px.mixed k (Px.bare d.r d.a) (Px.bare s.r s.a) = m0 at *
  generalize Px.bare d.r d.a = x0 at *
  generalize Px.bare s.r s.a = y0 at *
  generalize Px.mul s.r (255 - d.a) = p0 at *
  generalize Px.mul d.r (255 - s.a) = q0 at *
  generalize Px.mul (Px.mul s.a d.a) (Px.mixed k (Px.bare d.g d.a) (Px.bare s.g s.a)) = t1 at *
  generalize Px.mixed k (Px.bare d.g d.a) (Px.bare s.g s.a) = m1 at *
  generalize Px.bare d.g d.a = x1 at *
  generalize Px.bare s.g s.a = y1 at *
  generalize Px.mul s.g (255 - d.a) = p1 at *
  generalize Px.mul d.g (255 - s.a) = q1 at *
  generalize Px.mul (Px.mul s.a d.a) (Px.mixed k (Px.bare d.b d.a) (Px.bare s.b s.a)) = t2 at *
  generalize Px.mixed k (Px.bare d.b d.a) (Px.bare s.b s.a) = m2 at *
  generalize Px.bare d.b d.a = x2 at *
  generalize Px.bare s.b s.a = y2 at *
  generalize Px.mul s.b (255 - d.a) = p2 at *
  generalize Px.mul d.b (255 - s.a) = q2 at *
  generalize Px.mul s.a d.a = bt at *
  generalize Px.whole s.a d.a = wh at *
  generalize hv0 : min (p0 + q0 + t0) wh = v0 at *
  have V0 := fun w => least_any (p0 + q0 + t0) wh w
  rw [hv0] at V0
  have V0 := Lib.hid V0
  clear hv0
  have E0 := Lib.hid (wrap_add hp0 hq0)
  have U0 := Lib.hid (wrap_add3 hp0 hq0 ht0)
  obtain ⟨lp0, up0⟩ := hp0
  obtain ⟨lq0, uq0⟩ := hq0
  obtain ⟨lt0, ut0⟩ := ht0
  generalize hv1 : min (p1 + q1 + t1) wh = v1 at *
  have V1 := fun w => least_any (p1 + q1 + t1) wh w
  rw [hv1] at V1
  have V1 := Lib.hid V1
  clear hv1
  have E1 := Lib.hid (wrap_add hp1 hq1)
  have U1 := Lib.hid (wrap_add3 hp1 hq1 ht1)
  obtain ⟨lp1, up1⟩ := hp1
  obtain ⟨lq1, uq1⟩ := hq1
  obtain ⟨lt1, ut1⟩ := ht1
  generalize hv2 : min (p2 + q2 + t2) wh = v2 at *
  have V2 := fun w => least_any (p2 + q2 + t2) wh w
  rw [hv2] at V2
  have V2 := Lib.hid V2
  clear hv2
  have E2 := Lib.hid (wrap_add hp2 hq2)
  have U2 := Lib.hid (wrap_add3 hp2 hq2 ht2)
  obtain ⟨lp2, up2⟩ := hp2
  obtain ⟨lq2, uq2⟩ := hq2
  obtain ⟨lt2, ut2⟩ := ht2
  obtain ⟨lw, uw⟩ := hwb
  obtain ⟨lb, ub⟩ := hbt
  obtain ⟨F1, F2, F3⟩ := three_new w s d
  have K1 := Lib.hid ((((Keeps.refl none' w).alloc (.cells #[.int .i64 s.r, .int .i64 s.g, .int .i64 s.b, .int .i64 s.a] 26)).alloc (.cells #[.int .i64 d.r, .int .i64 d.g, .int .i64 d.b, .int .i64 d.a] 26)).alloc (.cells #[.int .i64 0, .int .i64 0, .int .i64 0, .int .i64 0] 26))
  have c3s := F1.c3
  have c3d := F2.c3
  have HE0 := Lib.hid e0
  have G1 := Lib.hid F1
  have G2 := Lib.hid F2
  have G3 := Lib.hid F3
  clear F1 F2 F3
  go_enter Tryd.func22, Tryd.ntmps22
  go_wp2_with fail
  refine (B1.out _).mono ?_
  rintro e w' ⟨rfl, rfl⟩
  go_wp2_with fail
  have AQ : Apart w w.heap.size (w.heap.size + 1) (w.heap.size + 1 + 1) (w.heap.size + 1 + 1 + 1) := ⟨by omega, by omega, by omega, by omega⟩
  have L0 : Lay w w.heap.size (w.heap.size + 1) (w.heap.size + 1 + 1) (w.heap.size + 1 + 1 + 1) s d 0 0 0 wh ((((w.alloc (.cells #[.int .i64 s.r, .int .i64 s.g, .int .i64 s.b, .int .i64 s.a] 26)).alloc (.cells #[.int .i64 d.r, .int .i64 d.g, .int .i64 d.b, .int .i64 d.a] 26)).alloc (.cells #[.int .i64 0, .int .i64 0, .int .i64 0, .int .i64 0] 26)).alloc (.cells #[.int .i64 0, .int .i64 0, .int .i64 0, .int .i64 wh] 26)) :=
    ⟨G1.out.alloc _, G2.out.alloc _, G3.out.alloc _, by have := Four.new (((w.alloc (.cells #[.int .i64 s.r, .int .i64 s.g, .int .i64 s.b, .int .i64 s.a] 26)).alloc (.cells #[.int .i64 d.r, .int .i64 d.g, .int .i64 d.b, .int .i64 d.a] 26)).alloc (.cells #[.int .i64 0, .int .i64 0, .int .i64 0, .int .i64 0] 26)) 0 0 0 wh; simpa using this, K1.out.alloc _⟩
  clear c3s c3d G1 G2 G3 K1
  generalize (((w.alloc (.cells #[.int .i64 s.r, .int .i64 s.g, .int .i64 s.b, .int .i64 s.a] 26)).alloc (.cells #[.int .i64 d.r, .int .i64 d.g, .int .i64 d.b, .int .i64 d.a] 26)).alloc (.cells #[.int .i64 0, .int .i64 0, .int .i64 0, .int .i64 0] 26)).alloc (.cells #[.int .i64 0, .int .i64 0, .int .i64 0, .int .i64 wh] 26) = wd at *
  generalize w.heap.size + 1 + 1 + 1 = L at *
  generalize w.heap.size + 1 + 1 = R at *
  generalize w.heap.size + 1 = D at *
  generalize w.heap.size = S at *
  have AQ := Lib.hid AQ
  have L0 := Lib.hid L0
  go_loopw [9] (Cnt3 (Lay w S D R L s d 0 0 0 wh) (Lay w S D R L s d v0 0 0 wh) (Lay w S D R L s d v0 v1 0 wh) (Lay w S D R L s d v0 v1 v2 wh)) (fun cnt _ => 3 - (intOf cnt).toNat)
  case atStart => exact .inl ⟨rfl, L0.out⟩
  case round =>
    rcases hrel with ⟨rfl, hW⟩ | ⟨rfl, hW⟩ | ⟨rfl, hW⟩ | ⟨rfl, hW⟩
    · have s0 := hW.src.c0
      have d0 := hW.gnd.c0
      have s3 := hW.src.c3
      have d3 := hW.gnd.c3
      have HW := Lib.hid hW
      clear hW
      have e1 := WA.out
      have e2 := WS.out
      have e3 := E0.out
      have e5 := U0.out
      go_wp2_with fail
      go_quiet (first | (go_at_call_of 15 (s.r); refine Calls.quiet_of_same (P0.out _)) | (go_at_call_of 15 (d.r); refine Calls.quiet_of_same (Q0.out _)) | (go_at_call_of 17 (d.r); refine Calls.quiet_of_same (X0.out _)) | (go_at_call_of 17 (s.r); refine Calls.quiet_of_same (Y0.out _)) | (go_at_call 28; refine Calls.quiet_of_same (M0.out _)) | (go_at_call_of 15 (bt); refine Calls.quiet_of_same (T0.out _)))
      clear s0 d0 s3 d3 e1 e2 e3 e5
      have HW2 := Lib.hid (HW.out.drewN nq)
      clear HW
      generalize wr.drewN nq = wq at *
      have f0 := HW2.out.on.fr (i := 0)
      have o0 := HW2.out.on.c0
      have o3 := HW2.out.on.c3
      have X := Lib.hid (HW2.out.r0 AQ.out v0)
      go_wp2_with fail
      refine (V0.out _).mono ?_
      rintro e w' ⟨rfl, rfl⟩
      go_wp2_with fail
      go_roundw
      case rel => exact .inr (.inl ⟨rfl, X.out⟩)
      case measure => decide
    · have s1 := hW.src.c1
      have d1 := hW.gnd.c1
      have s3 := hW.src.c3
      have d3 := hW.gnd.c3
      have HW := Lib.hid hW
      clear hW
      have e1 := WA.out
      have e2 := WS.out
      have e3 := E1.out
      have e5 := U1.out
      go_wp2_with fail
      go_quiet (first | (go_at_call_of 15 (s.g); refine Calls.quiet_of_same (P1.out _)) | (go_at_call_of 15 (d.g); refine Calls.quiet_of_same (Q1.out _)) | (go_at_call_of 17 (d.g); refine Calls.quiet_of_same (X1.out _)) | (go_at_call_of 17 (s.g); refine Calls.quiet_of_same (Y1.out _)) | (go_at_call 28; refine Calls.quiet_of_same (M1.out _)) | (go_at_call_of 15 (bt); refine Calls.quiet_of_same (T1.out _)))
      clear s1 d1 s3 d3 e1 e2 e3 e5
      have HW2 := Lib.hid (HW.out.drewN nq)
      clear HW
      generalize wr.drewN nq = wq at *
      have f0 := HW2.out.on.fr (i := 1)
      have o0 := HW2.out.on.c1
      have o3 := HW2.out.on.c3
      have X := Lib.hid (HW2.out.r1 AQ.out v1)
      go_wp2_with fail
      refine (V1.out _).mono ?_
      rintro e w' ⟨rfl, rfl⟩
      go_wp2_with fail
      go_roundw
      case rel => exact .inr (.inr (.inl ⟨rfl, X.out⟩))
      case measure => decide
    · have s2 := hW.src.c2
      have d2 := hW.gnd.c2
      have s3 := hW.src.c3
      have d3 := hW.gnd.c3
      have HW := Lib.hid hW
      clear hW
      have e1 := WA.out
      have e2 := WS.out
      have e3 := E2.out
      have e5 := U2.out
      go_wp2_with fail
      go_quiet (first | (go_at_call_of 15 (s.b); refine Calls.quiet_of_same (P2.out _)) | (go_at_call_of 15 (d.b); refine Calls.quiet_of_same (Q2.out _)) | (go_at_call_of 17 (d.b); refine Calls.quiet_of_same (X2.out _)) | (go_at_call_of 17 (s.b); refine Calls.quiet_of_same (Y2.out _)) | (go_at_call 28; refine Calls.quiet_of_same (M2.out _)) | (go_at_call_of 15 (bt); refine Calls.quiet_of_same (T2.out _)))
      clear s2 d2 s3 d3 e1 e2 e3 e5
      have HW2 := Lib.hid (HW.out.drewN nq)
      clear HW
      generalize wr.drewN nq = wq at *
      have f0 := HW2.out.on.fr (i := 2)
      have o0 := HW2.out.on.c2
      have o3 := HW2.out.on.c3
      have X := Lib.hid (HW2.out.r2 AQ.out v2)
      go_wp2_with fail
      refine (V2.out _).mono ?_
      rintro e w' ⟨rfl, rfl⟩
      go_wp2_with fail
      go_roundw
      case rel => exact .inr (.inr (.inr (⟨rfl, X.out⟩)))
      case measure => decide
    · have c0 := hW.on.c0
      have c1 := hW.on.c1
      have c2 := hW.on.c2
      have c3 := hW.on.c3
      have f0 := hW.res.fr (i := 0)
      have f1 := hW.res.fr (i := 1)
      have f2 := hW.res.fr (i := 2)
      have f3 := hW.res.fr (i := 3)
      have z0 := hW.res.c0
      have z1 := hW.res.c1
      have z2 := hW.res.c2
      have z3 := hW.res.c3
      have h := Lib.hid (hW.put AQ.out)
      clear hW
      go_wp2_with fail
      refine bodyPost_ret (results_cell_row rfl _ _ R 26 #[.int .i64 v0, .int .i64 v1, .int .i64 v2, .int .i64 wh] (0, 0) _ rfl h.out.1 Tryd.underlying26 rfl (by kernel_rfl)) rfl ?_
      exact ⟨rfl, h.out.2⟩
end Go.Proofs.YtfofghakjjblfaaDoor
