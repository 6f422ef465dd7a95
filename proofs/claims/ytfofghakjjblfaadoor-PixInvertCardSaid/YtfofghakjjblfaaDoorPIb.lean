/- The document's Way at a number that is too small. -/
import Derived.Test.YtfofghakjjblfaaDoorPI
namespace Go.Proofs.YtfofghakjjblfaaDoor
open Go.RowKit
set_option linter.unusedVariables false

set_option maxRecDepth 100000 in
set_option maxHeartbeats 1600000 in
theorem docWay_low (k : Int) (hk : k < 0) (s d : Px.Pix) (hs : s.bytes) (hd : d.bytes) (w : World) :
    Calls Tryd.prog 20 #[.int .i64 k, .agg #[.int .i64 s.r, .int .i64 s.g, .int .i64 s.b, .int .i64 s.a], .agg #[.int .i64 d.r, .int .i64 d.g, .int .i64 d.b, .int .i64 d.a]] w fun e w' =>
    e = .returned (.agg #[.int .i64 (Px.way k s d).r, .int .i64 (Px.way k s d).g, .int .i64 (Px.way k s d).b, .int .i64 (Px.way k s d).a]) ∧ Keeps none' w w' := by
  have hf := Px.share_byte (k := (Px.wayRow 0).1) hd.2.2.2
  have hg := Px.share_byte (k := (Px.wayRow 0).2) hs.2.2.2
  have HE := Lib.hid (show Px.F k d.a = Px.shareOf (Px.wayRow 0).1 d.a ∧ Px.G k s.a = Px.shareOf (Px.wayRow 0).2 s.a by unfold Px.F Px.G; rw [show Px.wayNo k = 0 by unfold Px.wayNo; rw [if_pos (by omega)]]; exact ⟨rfl, rfl⟩)
  have da0 := hd.2.2.2.1
  have da1 := hd.2.2.2.2
  have sa0 := hs.2.2.2.1
  have sa1 := hs.2.2.2.2
  unfold Px.way Px.laid
  simp only [HE.out.1, HE.out.2]
  have L0 := Lib.hid (layD_new w s d 0 _ _ (cellsF_at d.a 0 (by omega)) (cellsG_at s.a 0 (by omega)))
  unfold cellsF cellsG at L0
  clear HE
  generalize Px.shareOf (Px.wayRow 0).1 d.a = f at *
  generalize Px.shareOf (Px.wayRow 0).2 s.a = g at *
  have A0 := Lib.hid (fun w => docMul_any hs.1 hf w)
  have A1 := Lib.hid (fun w => docMul_any hs.2.1 hf w)
  have A2 := Lib.hid (fun w => docMul_any hs.2.2.1 hf w)
  have A3 := Lib.hid (fun w => docMul_any hs.2.2.2 hf w)
  have B0 := Lib.hid (fun w => docMul_any hd.1 hg w)
  have B1 := Lib.hid (fun w => docMul_any hd.2.1 hg w)
  have B2 := Lib.hid (fun w => docMul_any hd.2.2.1 hg w)
  have B3 := Lib.hid (fun w => docMul_any hd.2.2.2 hg w)
  have E0 := Lib.hid (And.left (sum_min (Px.mul_byte hs.1 hf) (Px.mul_byte hd.1 hg)))
  have E1 := Lib.hid (And.left (sum_min (Px.mul_byte hs.2.1 hf) (Px.mul_byte hd.2.1 hg)))
  have E2 := Lib.hid (And.left (sum_min (Px.mul_byte hs.2.2.1 hf) (Px.mul_byte hd.2.2.1 hg)))
  have E3 := Lib.hid (And.left (sum_min (Px.mul_byte hs.2.2.2 hf) (Px.mul_byte hd.2.2.2 hg)))
  clear hs hd hf hg
  generalize Px.mul s.r f = p0 at *
  generalize Px.mul s.g f = p1 at *
  generalize Px.mul s.b f = p2 at *
  generalize Px.mul s.a f = p3 at *
  generalize Px.mul d.r g = r0 at *
  generalize Px.mul d.g g = r1 at *
  generalize Px.mul d.b g = r2 at *
  generalize Px.mul d.a g = r3 at *
  generalize hv0 : min (p0 + r0) 255 = v0 at *
  generalize hv1 : min (p1 + r1) 255 = v1 at *
  generalize hv2 : min (p2 + r2) 255 = v2 at *
  generalize hv3 : min (p3 + r3) 255 = v3 at *
  have V0 := Lib.hid (show (255 < p0 + r0 → v0 = 255) ∧ (¬ 255 < p0 + r0 → v0 = p0 + r0) by omega)
  clear hv0
  have V1 := Lib.hid (show (255 < p1 + r1 → v1 = 255) ∧ (¬ 255 < p1 + r1 → v1 = p1 + r1) by omega)
  clear hv1
  have V2 := Lib.hid (show (255 < p2 + r2 → v2 = 255) ∧ (¬ 255 < p2 + r2 → v2 = p2 + r2) by omega)
  clear hv2
  have V3 := Lib.hid (show (255 < p3 + r3 → v3 = 255) ∧ (¬ 255 < p3 + r3 → v3 = p3 + r3) by omega)
  clear hv3
  have tn1 : decide (k < 0) = true := by simpa using hk
  clear hk
  go_enter Tryd.func20, Tryd.ntmps20
  go_wp2_with fail
  generalize hz : ((((((w.alloc (.cells #[.int .i64 s.r, .int .i64 s.g, .int .i64 s.b, .int .i64 s.a] 26)).alloc (.cells #[.int .i64 d.r, .int .i64 d.g, .int .i64 d.b, .int .i64 d.a] 26)).alloc (.cells #[.int .i64 0, .int .i64 0, .int .i64 0, .int .i64 0] 26)).alloc (.cells #[.int .i64 0, .int .i64 255, .int .i64 0, .int .i64 255, .int .i64 (255 - d.a), .int .i64 d.a, .int .i64 0, .int .i64 (255 - d.a), .int .i64 0, .int .i64 d.a, .int .i64 (255 - d.a), .int .i64 (255 - d.a)] 37)).alloc (.cells #[.int .i64 0, .int .i64 0, .int .i64 255, .int .i64 (255 - s.a), .int .i64 255, .int .i64 0, .int .i64 s.a, .int .i64 0, .int .i64 (255 - s.a), .int .i64 (255 - s.a), .int .i64 s.a, .int .i64 (255 - s.a)] 37)).alloc (.cells #[.int .i64 0, .int .i64 0, .int .i64 0, .int .i64 0] 26)) = wd at *
  clear hz
  have AQ : Apart w w.heap.size (w.heap.size + 1) (w.heap.size + 1 + 1) (w.heap.size + 1 + 1 + 1 + 1 + 1) := ⟨by omega, by omega, by omega, by omega⟩
  have NE : w.heap.size + 1 + 1 + 1 ≠ w.heap.size + 1 + 1 + 1 + 1 + 1 ∧ w.heap.size + 1 + 1 + 1 + 1 ≠ w.heap.size + 1 + 1 + 1 + 1 + 1 := ⟨by omega, by omega⟩
  generalize w.heap.size + 1 + 1 + 1 + 1 + 1 = L at *
  generalize w.heap.size + 1 + 1 + 1 + 1 = V at *
  generalize w.heap.size + 1 + 1 + 1 = U at *
  generalize w.heap.size + 1 + 1 = R at *
  generalize w.heap.size + 1 = D at *
  generalize w.heap.size = S at *
  have AQ := Lib.hid AQ
  have NE := Lib.hid NE
  go_loopw [10] (Cnt4 (LayD w S D R U V L 0 f g s d 0 0 0 0) (LayD w S D R U V L 0 f g s d v0 0 0 0) (LayD w S D R U V L 0 f g s d v0 v1 0 0) (LayD w S D R U V L 0 f g s d v0 v1 v2 0) (LayD w S D R U V L 0 f g s d v0 v1 v2 v3)) (fun cnt _ => 4 - (intOf cnt).toNat)
  case atStart => exact .inl ⟨rfl, L0.out⟩
  case round =>
    rcases hrel with ⟨rfl, hW⟩ | ⟨rfl, hW⟩ | ⟨rfl, hW⟩ | ⟨rfl, hW⟩ | ⟨rfl, hW⟩
    · have c0 := hW.lay.src.c0
      have d0 := hW.lay.gnd.c0
      have f0 := hW.lay.on.fr (i := 0)
      have o0 := hW.lay.on.c0
      have u0 := hW.rf
      have u1 := hW.rg
      have HW := Lib.hid hW
      clear hW
      have e1 := E0.out
      by_cases h : 255 < p0 + r0
      · have X := Lib.hid (HW.out.t0 AQ.out NE.out (p0 + r0) 255)
        have hv := V0.out.1 h
        subst hv
        have t : decide (255 < p0 + r0) = true := by simpa using h
        clear h
        go_wp2_with fail
        go_still_tail 16, (by kernel_rfl)
        still_call (A0.out _)
        repeat still_step
        still_call (B0.out _)
        repeat still_step
        try refine wpStill_nil ?_
        change wpList _ _ _ _ _ wr.drew
        clear e1
        go_wp2_with fail
        go_roundw
        case rel => exact .inr (.inl ⟨rfl, X.out⟩)
        case measure => decide
      · have X := Lib.hid (HW.out.s0 AQ.out NE.out (p0 + r0))
        have hv := V0.out.2 (by omega)
        subst hv
        have t : decide (255 < p0 + r0) = false := by simpa using h
        clear h
        go_wp2_with fail
        go_still_tail 16, (by kernel_rfl)
        still_call (A0.out _)
        repeat still_step
        still_call (B0.out _)
        repeat still_step
        try refine wpStill_nil ?_
        change wpList _ _ _ _ _ wr.drew
        clear e1
        go_wp2_with fail
        go_roundw
        case rel => exact .inr (.inl ⟨rfl, X.out⟩)
        case measure => decide
    · have c1 := hW.lay.src.c1
      have d1 := hW.lay.gnd.c1
      have f1 := hW.lay.on.fr (i := 1)
      have o1 := hW.lay.on.c1
      have u0 := hW.rf
      have u1 := hW.rg
      have HW := Lib.hid hW
      clear hW
      have e1 := E1.out
      by_cases h : 255 < p1 + r1
      · have X := Lib.hid (HW.out.t1 AQ.out NE.out (p1 + r1) 255)
        have hv := V1.out.1 h
        subst hv
        have t : decide (255 < p1 + r1) = true := by simpa using h
        clear h
        go_wp2_with fail
        go_still_tail 16, (by kernel_rfl)
        still_call (A1.out _)
        repeat still_step
        still_call (B1.out _)
        repeat still_step
        try refine wpStill_nil ?_
        change wpList _ _ _ _ _ wr.drew
        clear e1
        go_wp2_with fail
        go_roundw
        case rel => exact .inr (.inr (.inl ⟨rfl, X.out⟩))
        case measure => decide
      · have X := Lib.hid (HW.out.s1 AQ.out NE.out (p1 + r1))
        have hv := V1.out.2 (by omega)
        subst hv
        have t : decide (255 < p1 + r1) = false := by simpa using h
        clear h
        go_wp2_with fail
        go_still_tail 16, (by kernel_rfl)
        still_call (A1.out _)
        repeat still_step
        still_call (B1.out _)
        repeat still_step
        try refine wpStill_nil ?_
        change wpList _ _ _ _ _ wr.drew
        clear e1
        go_wp2_with fail
        go_roundw
        case rel => exact .inr (.inr (.inl ⟨rfl, X.out⟩))
        case measure => decide
    · have c2 := hW.lay.src.c2
      have d2 := hW.lay.gnd.c2
      have f2 := hW.lay.on.fr (i := 2)
      have o2 := hW.lay.on.c2
      have u0 := hW.rf
      have u1 := hW.rg
      have HW := Lib.hid hW
      clear hW
      have e1 := E2.out
      by_cases h : 255 < p2 + r2
      · have X := Lib.hid (HW.out.t2 AQ.out NE.out (p2 + r2) 255)
        have hv := V2.out.1 h
        subst hv
        have t : decide (255 < p2 + r2) = true := by simpa using h
        clear h
        go_wp2_with fail
        go_still_tail 16, (by kernel_rfl)
        still_call (A2.out _)
        repeat still_step
        still_call (B2.out _)
        repeat still_step
        try refine wpStill_nil ?_
        change wpList _ _ _ _ _ wr.drew
        clear e1
        go_wp2_with fail
        go_roundw
        case rel => exact .inr (.inr (.inr (.inl ⟨rfl, X.out⟩)))
        case measure => decide
      · have X := Lib.hid (HW.out.s2 AQ.out NE.out (p2 + r2))
        have hv := V2.out.2 (by omega)
        subst hv
        have t : decide (255 < p2 + r2) = false := by simpa using h
        clear h
        go_wp2_with fail
        go_still_tail 16, (by kernel_rfl)
        still_call (A2.out _)
        repeat still_step
        still_call (B2.out _)
        repeat still_step
        try refine wpStill_nil ?_
        change wpList _ _ _ _ _ wr.drew
        clear e1
        go_wp2_with fail
        go_roundw
        case rel => exact .inr (.inr (.inr (.inl ⟨rfl, X.out⟩)))
        case measure => decide
    · have c3 := hW.lay.src.c3
      have d3 := hW.lay.gnd.c3
      have f3 := hW.lay.on.fr (i := 3)
      have o3 := hW.lay.on.c3
      have u0 := hW.rf
      have u1 := hW.rg
      have HW := Lib.hid hW
      clear hW
      have e1 := E3.out
      by_cases h : 255 < p3 + r3
      · have X := Lib.hid (HW.out.t3 AQ.out NE.out (p3 + r3) 255)
        have hv := V3.out.1 h
        subst hv
        have t : decide (255 < p3 + r3) = true := by simpa using h
        clear h
        go_wp2_with fail
        go_still_tail 16, (by kernel_rfl)
        still_call (A3.out _)
        repeat still_step
        still_call (B3.out _)
        repeat still_step
        try refine wpStill_nil ?_
        change wpList _ _ _ _ _ wr.drew
        clear e1
        go_wp2_with fail
        go_roundw
        case rel => exact .inr (.inr (.inr (.inr (⟨rfl, X.out⟩))))
        case measure => decide
      · have X := Lib.hid (HW.out.s3 AQ.out NE.out (p3 + r3))
        have hv := V3.out.2 (by omega)
        subst hv
        have t : decide (255 < p3 + r3) = false := by simpa using h
        clear h
        go_wp2_with fail
        go_still_tail 16, (by kernel_rfl)
        still_call (A3.out _)
        repeat still_step
        still_call (B3.out _)
        repeat still_step
        try refine wpStill_nil ?_
        change wpList _ _ _ _ _ wr.drew
        clear e1
        go_wp2_with fail
        go_roundw
        case rel => exact .inr (.inr (.inr (.inr (⟨rfl, X.out⟩))))
        case measure => decide
    · have c0 := hW.lay.on.c0
      have c1 := hW.lay.on.c1
      have c2 := hW.lay.on.c2
      have c3 := hW.lay.on.c3
      have f0 := hW.lay.res.fr (i := 0)
      have f1 := hW.lay.res.fr (i := 1)
      have f2 := hW.lay.res.fr (i := 2)
      have f3 := hW.lay.res.fr (i := 3)
      have z0 := hW.lay.res.c0
      have z1 := hW.lay.res.c1
      have z2 := hW.lay.res.c2
      have z3 := hW.lay.res.c3
      have h := Lib.hid (hW.lay.put AQ.out)
      clear hW
      go_wp2_with fail
      refine bodyPost_ret (results_cell_row rfl _ _ R 26 #[.int .i64 v0, .int .i64 v1, .int .i64 v2, .int .i64 v3] (0, 0) _ rfl h.out.1 Tryd.underlying26 rfl (by kernel_rfl)) rfl ?_
      exact ⟨rfl, h.out.2⟩
end Go.Proofs.YtfofghakjjblfaaDoor
