/- The program's Way. -/
import Derived.Test.YtfofghakjjblfaaDoorPE
namespace Go.Proofs.YtfofghakjjblfaaDoor
open Go.RowKit
set_option linter.unusedVariables false

/-- The table of ways in memory. -/
def Ways (w : World) : Prop := ∀ n, n < 12 → w.cell? ⟨0, n * 2, none⟩ = some (.int .i64 (Px.wayRow n).1) ∧ w.cell? ⟨0, n * 2 + 1, none⟩ = some (.int .i64 (Px.wayRow n).2)
theorem Ways.later {w w' : World} (h : Ways w) (k : Keeps none' w w') : Ways w' := fun n hn =>
  ⟨(World.cell?_of_block (w := w) (k.later _ (World.block_lt_of_cell? w _ (h n hn).1))).trans (h n hn).1, (World.cell?_of_block (w := w) (k.later _ (World.block_lt_of_cell? w _ (h n hn).2))).trans (h n hn).2⟩

/-- Two pixels in memory, a result's place, one under way. -/
structure Lay (w : World) (S D R L : Nat) (s d : Px.Pix) (x y z a : Int) (wr : World) : Prop where
  src : Four wr S s.r s.g s.b s.a
  gnd : Four wr D d.r d.g d.b d.a
  res : Four wr R 0 0 0 0
  on : Four wr L x y z a
  keeps : Keeps none' w wr
structure Apart (w : World) (S D R L : Nat) : Prop where
  low : w.heap.size ≤ S
  a : S < D
  b : D < R
  c : R < L
section
variable {w : World} {S D R L : Nat} {s d : Px.Pix} {x y z a : Int} {wr : World}
theorem Lay.s0 (h : Lay w S D R L s d x y z a wr) (p : Apart w S D R L) (v : Int) : Lay w S D R L s d v y z a (wr.drew.setCell ⟨L, 0, none⟩ (.int .i64 v)) := by
  obtain ⟨p1, p2, p3, p4⟩ := p
  exact ⟨h.src.drew.set (by omega) _, h.gnd.drew.set (by omega) _, h.res.drew.set (by omega) _, h.on.drew.s0 v, h.keeps.drew.setCell (fun e => by simp only at e; omega) _⟩
theorem Lay.s1 (h : Lay w S D R L s d x y z a wr) (p : Apart w S D R L) (v : Int) : Lay w S D R L s d x v z a (wr.drew.setCell ⟨L, 1, none⟩ (.int .i64 v)) := by
  obtain ⟨p1, p2, p3, p4⟩ := p
  exact ⟨h.src.drew.set (by omega) _, h.gnd.drew.set (by omega) _, h.res.drew.set (by omega) _, h.on.drew.s1 v, h.keeps.drew.setCell (fun e => by simp only at e; omega) _⟩
theorem Lay.s2 (h : Lay w S D R L s d x y z a wr) (p : Apart w S D R L) (v : Int) : Lay w S D R L s d x y v a (wr.drew.setCell ⟨L, 2, none⟩ (.int .i64 v)) := by
  obtain ⟨p1, p2, p3, p4⟩ := p
  exact ⟨h.src.drew.set (by omega) _, h.gnd.drew.set (by omega) _, h.res.drew.set (by omega) _, h.on.drew.s2 v, h.keeps.drew.setCell (fun e => by simp only at e; omega) _⟩
theorem Lay.s3 (h : Lay w S D R L s d x y z a wr) (p : Apart w S D R L) (v : Int) : Lay w S D R L s d x y z v (wr.drew.setCell ⟨L, 3, none⟩ (.int .i64 v)) := by
  obtain ⟨p1, p2, p3, p4⟩ := p
  exact ⟨h.src.drew.set (by omega) _, h.gnd.drew.set (by omega) _, h.res.drew.set (by omega) _, h.on.drew.s3 v, h.keeps.drew.setCell (fun e => by simp only at e; omega) _⟩
theorem Lay.put (h : Lay w S D R L s d x y z a wr) (p : Apart w S D R L) :
    Four ((((wr.setCell ⟨R, 0, none⟩ (.int .i64 x)).setCell ⟨R, 1, none⟩ (.int .i64 y)).setCell ⟨R, 2, none⟩ (.int .i64 z)).setCell ⟨R, 3, none⟩ (.int .i64 a)) R x y z a ∧
    Keeps none' w ((((wr.setCell ⟨R, 0, none⟩ (.int .i64 x)).setCell ⟨R, 1, none⟩ (.int .i64 y)).setCell ⟨R, 2, none⟩ (.int .i64 z)).setCell ⟨R, 3, none⟩ (.int .i64 a)) := by
  obtain ⟨p1, p2, p3, p4⟩ := p
  exact ⟨(((h.res.s0 x).s1 y).s2 z).s3 a, (((h.keeps.setCell (fun e => by simp only at e; omega) _).setCell (fun e => by simp only at e; omega) _).setCell (fun e => by simp only at e; omega) _).setCell (fun e => by simp only at e; omega) _⟩
end
abbrev agg (p : Px.Pix) : Value := .agg #[.int .i64 p.r, .int .i64 p.g, .int .i64 p.b, .int .i64 p.a]
/-- Where a call has laid two pixels and a place for its result. -/
theorem three_new (w : World) (s d : Px.Pix) :
    Four (((w.alloc (.cells #[.int .i64 s.r, .int .i64 s.g, .int .i64 s.b, .int .i64 s.a] 26)).alloc (.cells #[.int .i64 d.r, .int .i64 d.g, .int .i64 d.b, .int .i64 d.a] 26)).alloc (.cells #[.int .i64 0, .int .i64 0, .int .i64 0, .int .i64 0] 26)) w.heap.size s.r s.g s.b s.a ∧
    Four (((w.alloc (.cells #[.int .i64 s.r, .int .i64 s.g, .int .i64 s.b, .int .i64 s.a] 26)).alloc (.cells #[.int .i64 d.r, .int .i64 d.g, .int .i64 d.b, .int .i64 d.a] 26)).alloc (.cells #[.int .i64 0, .int .i64 0, .int .i64 0, .int .i64 0] 26)) (w.heap.size + 1) d.r d.g d.b d.a ∧
    Four (((w.alloc (.cells #[.int .i64 s.r, .int .i64 s.g, .int .i64 s.b, .int .i64 s.a] 26)).alloc (.cells #[.int .i64 d.r, .int .i64 d.g, .int .i64 d.b, .int .i64 d.a] 26)).alloc (.cells #[.int .i64 0, .int .i64 0, .int .i64 0, .int .i64 0] 26)) (w.heap.size + 1 + 1) 0 0 0 0 := by
  refine ⟨((Four.new _ _ _ _ _).alloc _).alloc _, ?_, ?_⟩
  · have := (Four.new (w.alloc (.cells #[.int .i64 s.r, .int .i64 s.g, .int .i64 s.b, .int .i64 s.a] 26)) d.r d.g d.b d.a).alloc (.cells #[.int .i64 0, .int .i64 0, .int .i64 0, .int .i64 0] 26)
    simpa using this
  · have := Four.new ((w.alloc (.cells #[.int .i64 s.r, .int .i64 s.g, .int .i64 s.b, .int .i64 s.a] 26)).alloc (.cells #[.int .i64 d.r, .int .i64 d.g, .int .i64 d.b, .int .i64 d.a] 26)) 0 0 0 0
    simpa using this

theorem sum_min {x y : Int} (hx : Px.Byte x) (hy : Px.Byte y) : IntKind.i64.wrap (x + y) = x + y ∧ (if 255 < x + y then 255 else x + y) = min (x + y) 255 := by
  obtain ⟨a, b⟩ := hx
  obtain ⟨c, d⟩ := hy
  exact ⟨wrap_i64 _ (by omega) (by omega), by omega⟩
set_option maxRecDepth 100000 in
set_option maxHeartbeats 1600000 in
theorem way_nat (n : Nat) (hn : n < 12) (k : Int) (hk : k = n) (s d : Px.Pix) (hs : s.bytes) (hd : d.bytes) (w : World) (hW : Ways w) :
    Calls Tryd.prog 19 #[.int .i64 k, .agg #[.int .i64 s.r, .int .i64 s.g, .int .i64 s.b, .int .i64 s.a], .agg #[.int .i64 d.r, .int .i64 d.g, .int .i64 d.b, .int .i64 d.a]] w fun e w' =>
    e = .returned (.agg #[.int .i64 (Px.way k s d).r, .int .i64 (Px.way k s d).g, .int .i64 (Px.way k s d).b, .int .i64 (Px.way k s d).a]) ∧ Keeps none' w w' := by
  subst hk
  obtain ⟨w0, w1⟩ := (hW.later ((((Keeps.refl none' w).alloc (.cells #[.int .i64 s.r, .int .i64 s.g, .int .i64 s.b, .int .i64 s.a] 26)).alloc (.cells #[.int .i64 d.r, .int .i64 d.g, .int .i64 d.b, .int .i64 d.a] 26)).alloc (.cells #[.int .i64 0, .int .i64 0, .int .i64 0, .int .i64 0] 26))) n hn
  obtain ⟨F1, F2, F3⟩ := three_new w s d
  have K1 := Lib.hid ((((Keeps.refl none' w).alloc (.cells #[.int .i64 s.r, .int .i64 s.g, .int .i64 s.b, .int .i64 s.a] 26)).alloc (.cells #[.int .i64 d.r, .int .i64 d.g, .int .i64 d.b, .int .i64 d.a] 26)).alloc (.cells #[.int .i64 0, .int .i64 0, .int .i64 0, .int .i64 0] 26))
  have C1 := Lib.hid (fun w => share_any (k := (Px.wayRow n).1) (o := d.a) hd.2.2.2 w)
  have C2 := Lib.hid (fun w => share_any (k := (Px.wayRow n).2) (o := s.a) hs.2.2.2 w)
  have hf := Px.share_byte (k := (Px.wayRow n).1) hd.2.2.2
  have hg := Px.share_byte (k := (Px.wayRow n).2) hs.2.2.2
  have HE := Lib.hid (show Px.F n d.a = Px.shareOf (Px.wayRow n).1 d.a ∧ Px.G n s.a = Px.shareOf (Px.wayRow n).2 s.a by unfold Px.F Px.G; rw [Px.wayNo_nat n hn]; exact ⟨rfl, rfl⟩)
  unfold Px.way Px.laid
  simp only [HE.out.1, HE.out.2]
  clear HE
  generalize Px.shareOf (Px.wayRow n).1 d.a = f at *
  generalize Px.shareOf (Px.wayRow n).2 s.a = g at *
  generalize (Px.wayRow n).1 = q1 at *
  generalize (Px.wayRow n).2 = q2 at *
  have A0 := Lib.hid (fun w => mul_any hs.1 hf w)
  have A1 := Lib.hid (fun w => mul_any hs.2.1 hf w)
  have A2 := Lib.hid (fun w => mul_any hs.2.2.1 hf w)
  have A3 := Lib.hid (fun w => mul_any hs.2.2.2 hf w)
  have B0 := Lib.hid (fun w => mul_any hd.1 hg w)
  have B1 := Lib.hid (fun w => mul_any hd.2.1 hg w)
  have B2 := Lib.hid (fun w => mul_any hd.2.2.1 hg w)
  have B3 := Lib.hid (fun w => mul_any hd.2.2.2 hg w)
  have E0 := Lib.hid (sum_min (Px.mul_byte hs.1 hf) (Px.mul_byte hd.1 hg))
  have E1 := Lib.hid (sum_min (Px.mul_byte hs.2.1 hf) (Px.mul_byte hd.2.1 hg))
  have E2 := Lib.hid (sum_min (Px.mul_byte hs.2.2.1 hf) (Px.mul_byte hd.2.2.1 hg))
  have E3 := Lib.hid (sum_min (Px.mul_byte hs.2.2.2 hf) (Px.mul_byte hd.2.2.2 hg))
  clear hs hd hf hg
  generalize Px.mul s.r f = p0 at *
  generalize Px.mul s.g f = p1 at *
  generalize Px.mul s.b f = p2 at *
  generalize Px.mul s.a f = p3 at *
  generalize Px.mul d.r g = r0 at *
  generalize Px.mul d.g g = r1 at *
  generalize Px.mul d.b g = r2 at *
  generalize Px.mul d.a g = r3 at *
  generalize min (p0 + r0) 255 = v0 at *
  generalize min (p1 + r1) 255 = v1 at *
  generalize min (p2 + r2) 255 = v2 at *
  generalize min (p3 + r3) 255 = v3 at *
  have tn1 : decide ((n : Int) < 0) = false := by simp
  have tn2 : decide (12 ≤ (n : Int)) = false := by simp; omega
  go_enter Tryd.func19, Tryd.ntmps19
  go_wp2_with fail
  generalize ((w.alloc (.cells #[.int .i64 s.r, .int .i64 s.g, .int .i64 s.b, .int .i64 s.a] 26)).alloc (.cells #[.int .i64 d.r, .int .i64 d.g, .int .i64 d.b, .int .i64 d.a] 26)).alloc (.cells #[.int .i64 0, .int .i64 0, .int .i64 0, .int .i64 0] 26) = wa at *
  obtain ⟨S, hS⟩ : ∃ S, S = w.heap.size := ⟨_, rfl⟩
  rw [← hS] at F1 F2 F3
  rw [← hS]
  obtain ⟨D, hD⟩ : ∃ D, D = S + 1 := ⟨_, rfl⟩
  obtain ⟨R, hR⟩ : ∃ R, R = D + 1 := ⟨_, rfl⟩
  rw [← hD] at F2 F3
  rw [← hR] at F3
  rw [← hD, ← hR]
  have AP : w.heap.size ≤ S ∧ S < D ∧ D < R := by omega
  clear hS hD hR
  have c3s := F1.c3
  have c3d := F2.c3
  have hq : (n : Int) < 12 := by omega
  go_quiet ((go_at_call 29; refine Calls.quiet_of_same (C1.out _)))
  go_wp2_with fail
  have G1 := Lib.hid (show Four (wa.drewN nq) S s.r s.g s.b s.a from F1)
  have G2 := Lib.hid (show Four (wa.drewN nq) D d.r d.g d.b d.a from F2)
  have G3 := Lib.hid (show Four (wa.drewN nq) R 0 0 0 0 from F3)
  have g1 : (wa.drewN nq).cell? ⟨0, n * 2 + 1, none⟩ = some (.int .i64 q2) := w1
  have g2 : (wa.drewN nq).cell? ⟨S, 3, none⟩ = some (.int .i64 s.a) := c3s
  have K2 := Lib.hid (K1.out.drewN nq)
  clear F1 F2 F3 c3s c3d w0 w1 K1 C1
  generalize wa.drewN nq = wb at *
  go_quiet ((go_at_call 29; refine Calls.quiet_of_same (C2.out _)))
  have H1 := Lib.hid (show Four (wb.drewN nq) S s.r s.g s.b s.a from G1.out)
  have H2 := Lib.hid (show Four (wb.drewN nq) D d.r d.g d.b d.a from G2.out)
  have H3 := Lib.hid (show Four (wb.drewN nq) R 0 0 0 0 from G3.out)
  have K3 := Lib.hid (K2.out.drewN nq)
  clear G1 G2 G3 g1 g2 K2 C2
  generalize wb.drewN nq = wc at *
  have L0 := Lib.hid (show Lay w S D R wc.heap.size s d 0 0 0 0 (wc.alloc (.cells #[.int .i64 0, .int .i64 0, .int .i64 0, .int .i64 0] 26)) from ⟨H1.out.alloc _, H2.out.alloc _, H3.out.alloc _, Four.new _ _ _ _ _, K3.out.alloc _⟩)
  have AQ := Lib.hid (show Apart w S D R wc.heap.size from ⟨AP.1, AP.2.1, AP.2.2, H3.out.lt⟩)
  clear H1 H2 H3 K3 AP
  go_wp2_with fail
  generalize wc.alloc (.cells #[.int .i64 0, .int .i64 0, .int .i64 0, .int .i64 0] 26) = wd at *
  generalize wc.heap.size = L at *
  go_loopw [31] (Cnt4 (Lay w S D R L s d 0 0 0 0) (Lay w S D R L s d v0 0 0 0) (Lay w S D R L s d v0 v1 0 0) (Lay w S D R L s d v0 v1 v2 0) (Lay w S D R L s d v0 v1 v2 v3)) (fun cnt _ => 4 - (intOf cnt).toNat)
  case atStart => exact .inl ⟨rfl, L0.out⟩
  case round =>
    rcases hrel with ⟨rfl, hW⟩ | ⟨rfl, hW⟩ | ⟨rfl, hW⟩ | ⟨rfl, hW⟩ | ⟨rfl, hW⟩
    · have c0 := hW.src.c0
      have d0 := hW.gnd.c0
      have f0 := hW.on.fr (i := 0)
      have o0 := hW.on.c0
      have X := Lib.hid (hW.s0 AQ.out v0)
      clear hW
      have e1 := E0.out.1
      have e2 := E0.out.2
      go_wp2_with fail
      go_still_tail 13, (by kernel_rfl)
      still_call (A0.out _)
      repeat still_step
      still_call (B0.out _)
      repeat still_step
      try refine wpStill_nil ?_
      change wpList _ _ _ _ _ wr.drew
      clear e1 e2
      go_wp2_with fail
      go_roundw
      case rel => exact .inr (.inl ⟨rfl, X.out⟩)
      case measure => decide
    · have c1 := hW.src.c1
      have d1 := hW.gnd.c1
      have f1 := hW.on.fr (i := 1)
      have o1 := hW.on.c1
      have X := Lib.hid (hW.s1 AQ.out v1)
      clear hW
      have e1 := E1.out.1
      have e2 := E1.out.2
      go_wp2_with fail
      go_still_tail 13, (by kernel_rfl)
      still_call (A1.out _)
      repeat still_step
      still_call (B1.out _)
      repeat still_step
      try refine wpStill_nil ?_
      change wpList _ _ _ _ _ wr.drew
      clear e1 e2
      go_wp2_with fail
      go_roundw
      case rel => exact .inr (.inr (.inl ⟨rfl, X.out⟩))
      case measure => decide
    · have c2 := hW.src.c2
      have d2 := hW.gnd.c2
      have f2 := hW.on.fr (i := 2)
      have o2 := hW.on.c2
      have X := Lib.hid (hW.s2 AQ.out v2)
      clear hW
      have e1 := E2.out.1
      have e2 := E2.out.2
      go_wp2_with fail
      go_still_tail 13, (by kernel_rfl)
      still_call (A2.out _)
      repeat still_step
      still_call (B2.out _)
      repeat still_step
      try refine wpStill_nil ?_
      change wpList _ _ _ _ _ wr.drew
      clear e1 e2
      go_wp2_with fail
      go_roundw
      case rel => exact .inr (.inr (.inr (.inl ⟨rfl, X.out⟩)))
      case measure => decide
    · have c3 := hW.src.c3
      have d3 := hW.gnd.c3
      have f3 := hW.on.fr (i := 3)
      have o3 := hW.on.c3
      have X := Lib.hid (hW.s3 AQ.out v3)
      clear hW
      have e1 := E3.out.1
      have e2 := E3.out.2
      go_wp2_with fail
      go_still_tail 13, (by kernel_rfl)
      still_call (A3.out _)
      repeat still_step
      still_call (B3.out _)
      repeat still_step
      try refine wpStill_nil ?_
      change wpList _ _ _ _ _ wr.drew
      clear e1 e2
      go_wp2_with fail
      go_roundw
      case rel => exact .inr (.inr (.inr (.inr (⟨rfl, X.out⟩))))
      case measure => decide
    · have c0 := hW.on.c0
      have c1 := hW.on.c1
      have c2 := hW.on.c2
      have c3 := hW.on.c3
      have f0 := hW.res.fr (i := 0)
      have f1 := hW.res.fr (i := 1)
      have f2 := hW.res.fr (i := 2)
      have f3 := hW.res.fr (i := 3)
      have z0 := hW.res.c0
      have z1 := hW.res.c1
      have z2 := hW.res.c2
      have z3 := hW.res.c3
      have h := Lib.hid (hW.put AQ.out)
      clear hW
      go_wp2_with fail
      refine bodyPost_ret (results_cell_row rfl _ _ R 26 #[.int .i64 v0, .int .i64 v1, .int .i64 v2, .int .i64 v3] (0, 0) _ rfl h.out.1 Tryd.underlying26 rfl (by kernel_rfl)) rfl ?_
      exact ⟨rfl, h.out.2⟩
set_option maxRecDepth 100000 in
set_option maxHeartbeats 1600000 in
theorem way_low (k : Int) (hk : k < 0) (s d : Px.Pix) (hs : s.bytes) (hd : d.bytes) (w : World) (hW : Ways w) :
    Calls Tryd.prog 19 #[.int .i64 k, .agg #[.int .i64 s.r, .int .i64 s.g, .int .i64 s.b, .int .i64 s.a], .agg #[.int .i64 d.r, .int .i64 d.g, .int .i64 d.b, .int .i64 d.a]] w fun e w' =>
    e = .returned (.agg #[.int .i64 (Px.way k s d).r, .int .i64 (Px.way k s d).g, .int .i64 (Px.way k s d).b, .int .i64 (Px.way k s d).a]) ∧ Keeps none' w w' := by
  obtain ⟨w0, w1⟩ := (hW.later ((((Keeps.refl none' w).alloc (.cells #[.int .i64 s.r, .int .i64 s.g, .int .i64 s.b, .int .i64 s.a] 26)).alloc (.cells #[.int .i64 d.r, .int .i64 d.g, .int .i64 d.b, .int .i64 d.a] 26)).alloc (.cells #[.int .i64 0, .int .i64 0, .int .i64 0, .int .i64 0] 26))) 0 (by omega)
  simp only [Nat.zero_mul, Nat.zero_add] at w0 w1
  obtain ⟨F1, F2, F3⟩ := three_new w s d
  have K1 := Lib.hid ((((Keeps.refl none' w).alloc (.cells #[.int .i64 s.r, .int .i64 s.g, .int .i64 s.b, .int .i64 s.a] 26)).alloc (.cells #[.int .i64 d.r, .int .i64 d.g, .int .i64 d.b, .int .i64 d.a] 26)).alloc (.cells #[.int .i64 0, .int .i64 0, .int .i64 0, .int .i64 0] 26))
  have C1 := Lib.hid (fun w => share_any (k := (Px.wayRow 0).1) (o := d.a) hd.2.2.2 w)
  have C2 := Lib.hid (fun w => share_any (k := (Px.wayRow 0).2) (o := s.a) hs.2.2.2 w)
  have hf := Px.share_byte (k := (Px.wayRow 0).1) hd.2.2.2
  have hg := Px.share_byte (k := (Px.wayRow 0).2) hs.2.2.2
  have HE := Lib.hid (show Px.F k d.a = Px.shareOf (Px.wayRow 0).1 d.a ∧ Px.G k s.a = Px.shareOf (Px.wayRow 0).2 s.a by unfold Px.F Px.G; rw [show Px.wayNo k = 0 by unfold Px.wayNo; rw [if_pos (by omega)]]; exact ⟨rfl, rfl⟩)
  unfold Px.way Px.laid
  simp only [HE.out.1, HE.out.2]
  clear HE
  generalize Px.shareOf (Px.wayRow 0).1 d.a = f at *
  generalize Px.shareOf (Px.wayRow 0).2 s.a = g at *
  generalize (Px.wayRow 0).1 = q1 at *
  generalize (Px.wayRow 0).2 = q2 at *
  have A0 := Lib.hid (fun w => mul_any hs.1 hf w)
  have A1 := Lib.hid (fun w => mul_any hs.2.1 hf w)
  have A2 := Lib.hid (fun w => mul_any hs.2.2.1 hf w)
  have A3 := Lib.hid (fun w => mul_any hs.2.2.2 hf w)
  have B0 := Lib.hid (fun w => mul_any hd.1 hg w)
  have B1 := Lib.hid (fun w => mul_any hd.2.1 hg w)
  have B2 := Lib.hid (fun w => mul_any hd.2.2.1 hg w)
  have B3 := Lib.hid (fun w => mul_any hd.2.2.2 hg w)
  have E0 := Lib.hid (sum_min (Px.mul_byte hs.1 hf) (Px.mul_byte hd.1 hg))
  have E1 := Lib.hid (sum_min (Px.mul_byte hs.2.1 hf) (Px.mul_byte hd.2.1 hg))
  have E2 := Lib.hid (sum_min (Px.mul_byte hs.2.2.1 hf) (Px.mul_byte hd.2.2.1 hg))
  have E3 := Lib.hid (sum_min (Px.mul_byte hs.2.2.2 hf) (Px.mul_byte hd.2.2.2 hg))
  clear hs hd hf hg
  generalize Px.mul s.r f = p0 at *
  generalize Px.mul s.g f = p1 at *
  generalize Px.mul s.b f = p2 at *
  generalize Px.mul s.a f = p3 at *
  generalize Px.mul d.r g = r0 at *
  generalize Px.mul d.g g = r1 at *
  generalize Px.mul d.b g = r2 at *
  generalize Px.mul d.a g = r3 at *
  generalize min (p0 + r0) 255 = v0 at *
  generalize min (p1 + r1) 255 = v1 at *
  generalize min (p2 + r2) 255 = v2 at *
  generalize min (p3 + r3) 255 = v3 at *
  have tn1 : decide (k < 0) = true := by simpa using hk
  clear hk
  go_enter Tryd.func19, Tryd.ntmps19
  go_wp2_with fail
  generalize ((w.alloc (.cells #[.int .i64 s.r, .int .i64 s.g, .int .i64 s.b, .int .i64 s.a] 26)).alloc (.cells #[.int .i64 d.r, .int .i64 d.g, .int .i64 d.b, .int .i64 d.a] 26)).alloc (.cells #[.int .i64 0, .int .i64 0, .int .i64 0, .int .i64 0] 26) = wa at *
  obtain ⟨S, hS⟩ : ∃ S, S = w.heap.size := ⟨_, rfl⟩
  rw [← hS] at F1 F2 F3
  rw [← hS]
  obtain ⟨D, hD⟩ : ∃ D, D = S + 1 := ⟨_, rfl⟩
  obtain ⟨R, hR⟩ : ∃ R, R = D + 1 := ⟨_, rfl⟩
  rw [← hD] at F2 F3
  rw [← hR] at F3
  rw [← hD, ← hR]
  have AP : w.heap.size ≤ S ∧ S < D ∧ D < R := by omega
  clear hS hD hR
  have c3s := F1.c3
  have c3d := F2.c3
  go_quiet ((go_at_call 29; refine Calls.quiet_of_same (C1.out _)))
  go_wp2_with fail
  have G1 := Lib.hid (show Four (wa.drewN nq) S s.r s.g s.b s.a from F1)
  have G2 := Lib.hid (show Four (wa.drewN nq) D d.r d.g d.b d.a from F2)
  have G3 := Lib.hid (show Four (wa.drewN nq) R 0 0 0 0 from F3)
  have g1 : (wa.drewN nq).cell? ⟨0, 1, none⟩ = some (.int .i64 q2) := w1
  have g2 : (wa.drewN nq).cell? ⟨S, 3, none⟩ = some (.int .i64 s.a) := c3s
  have K2 := Lib.hid (K1.out.drewN nq)
  clear F1 F2 F3 c3s c3d w0 w1 K1 C1
  generalize wa.drewN nq = wb at *
  go_quiet ((go_at_call 29; refine Calls.quiet_of_same (C2.out _)))
  have H1 := Lib.hid (show Four (wb.drewN nq) S s.r s.g s.b s.a from G1.out)
  have H2 := Lib.hid (show Four (wb.drewN nq) D d.r d.g d.b d.a from G2.out)
  have H3 := Lib.hid (show Four (wb.drewN nq) R 0 0 0 0 from G3.out)
  have K3 := Lib.hid (K2.out.drewN nq)
  clear G1 G2 G3 g1 g2 K2 C2
  generalize wb.drewN nq = wc at *
  have L0 := Lib.hid (show Lay w S D R wc.heap.size s d 0 0 0 0 (wc.alloc (.cells #[.int .i64 0, .int .i64 0, .int .i64 0, .int .i64 0] 26)) from ⟨H1.out.alloc _, H2.out.alloc _, H3.out.alloc _, Four.new _ _ _ _ _, K3.out.alloc _⟩)
  have AQ := Lib.hid (show Apart w S D R wc.heap.size from ⟨AP.1, AP.2.1, AP.2.2, H3.out.lt⟩)
  clear H1 H2 H3 K3 AP
  go_wp2_with fail
  generalize wc.alloc (.cells #[.int .i64 0, .int .i64 0, .int .i64 0, .int .i64 0] 26) = wd at *
  generalize wc.heap.size = L at *
  go_loopw [31] (Cnt4 (Lay w S D R L s d 0 0 0 0) (Lay w S D R L s d v0 0 0 0) (Lay w S D R L s d v0 v1 0 0) (Lay w S D R L s d v0 v1 v2 0) (Lay w S D R L s d v0 v1 v2 v3)) (fun cnt _ => 4 - (intOf cnt).toNat)
  case atStart => exact .inl ⟨rfl, L0.out⟩
  case round =>
    rcases hrel with ⟨rfl, hW⟩ | ⟨rfl, hW⟩ | ⟨rfl, hW⟩ | ⟨rfl, hW⟩ | ⟨rfl, hW⟩
    · have c0 := hW.src.c0
      have d0 := hW.gnd.c0
      have f0 := hW.on.fr (i := 0)
      have o0 := hW.on.c0
      have X := Lib.hid (hW.s0 AQ.out v0)
      clear hW
      have e1 := E0.out.1
      have e2 := E0.out.2
      go_wp2_with fail
      go_still_tail 13, (by kernel_rfl)
      still_call (A0.out _)
      repeat still_step
      still_call (B0.out _)
      repeat still_step
      try refine wpStill_nil ?_
      change wpList _ _ _ _ _ wr.drew
      clear e1 e2
      go_wp2_with fail
      go_roundw
      case rel => exact .inr (.inl ⟨rfl, X.out⟩)
      case measure => decide
    · have c1 := hW.src.c1
      have d1 := hW.gnd.c1
      have f1 := hW.on.fr (i := 1)
      have o1 := hW.on.c1
      have X := Lib.hid (hW.s1 AQ.out v1)
      clear hW
      have e1 := E1.out.1
      have e2 := E1.out.2
      go_wp2_with fail
      go_still_tail 13, (by kernel_rfl)
      still_call (A1.out _)
      repeat still_step
      still_call (B1.out _)
      repeat still_step
      try refine wpStill_nil ?_
      change wpList _ _ _ _ _ wr.drew
      clear e1 e2
      go_wp2_with fail
      go_roundw
      case rel => exact .inr (.inr (.inl ⟨rfl, X.out⟩))
      case measure => decide
    · have c2 := hW.src.c2
      have d2 := hW.gnd.c2
      have f2 := hW.on.fr (i := 2)
      have o2 := hW.on.c2
      have X := Lib.hid (hW.s2 AQ.out v2)
      clear hW
      have e1 := E2.out.1
      have e2 := E2.out.2
      go_wp2_with fail
      go_still_tail 13, (by kernel_rfl)
      still_call (A2.out _)
      repeat still_step
      still_call (B2.out _)
      repeat still_step
      try refine wpStill_nil ?_
      change wpList _ _ _ _ _ wr.drew
      clear e1 e2
      go_wp2_with fail
      go_roundw
      case rel => exact .inr (.inr (.inr (.inl ⟨rfl, X.out⟩)))
      case measure => decide
    · have c3 := hW.src.c3
      have d3 := hW.gnd.c3
      have f3 := hW.on.fr (i := 3)
      have o3 := hW.on.c3
      have X := Lib.hid (hW.s3 AQ.out v3)
      clear hW
      have e1 := E3.out.1
      have e2 := E3.out.2
      go_wp2_with fail
      go_still_tail 13, (by kernel_rfl)
      still_call (A3.out _)
      repeat still_step
      still_call (B3.out _)
      repeat still_step
      try refine wpStill_nil ?_
      change wpList _ _ _ _ _ wr.drew
      clear e1 e2
      go_wp2_with fail
      go_roundw
      case rel => exact .inr (.inr (.inr (.inr (⟨rfl, X.out⟩))))
      case measure => decide
    · have c0 := hW.on.c0
      have c1 := hW.on.c1
      have c2 := hW.on.c2
      have c3 := hW.on.c3
      have f0 := hW.res.fr (i := 0)
      have f1 := hW.res.fr (i := 1)
      have f2 := hW.res.fr (i := 2)
      have f3 := hW.res.fr (i := 3)
      have z0 := hW.res.c0
      have z1 := hW.res.c1
      have z2 := hW.res.c2
      have z3 := hW.res.c3
      have h := Lib.hid (hW.put AQ.out)
      clear hW
      go_wp2_with fail
      refine bodyPost_ret (results_cell_row rfl _ _ R 26 #[.int .i64 v0, .int .i64 v1, .int .i64 v2, .int .i64 v3] (0, 0) _ rfl h.out.1 Tryd.underlying26 rfl (by kernel_rfl)) rfl ?_
      exact ⟨rfl, h.out.2⟩
set_option maxRecDepth 100000 in
set_option maxHeartbeats 1600000 in
theorem way_high (k : Int) (hk : 12 ≤ k) (s d : Px.Pix) (hs : s.bytes) (hd : d.bytes) (w : World) (hW : Ways w) :
    Calls Tryd.prog 19 #[.int .i64 k, .agg #[.int .i64 s.r, .int .i64 s.g, .int .i64 s.b, .int .i64 s.a], .agg #[.int .i64 d.r, .int .i64 d.g, .int .i64 d.b, .int .i64 d.a]] w fun e w' =>
    e = .returned (.agg #[.int .i64 (Px.way k s d).r, .int .i64 (Px.way k s d).g, .int .i64 (Px.way k s d).b, .int .i64 (Px.way k s d).a]) ∧ Keeps none' w w' := by
  obtain ⟨w0, w1⟩ := (hW.later ((((Keeps.refl none' w).alloc (.cells #[.int .i64 s.r, .int .i64 s.g, .int .i64 s.b, .int .i64 s.a] 26)).alloc (.cells #[.int .i64 d.r, .int .i64 d.g, .int .i64 d.b, .int .i64 d.a] 26)).alloc (.cells #[.int .i64 0, .int .i64 0, .int .i64 0, .int .i64 0] 26))) 0 (by omega)
  simp only [Nat.zero_mul, Nat.zero_add] at w0 w1
  obtain ⟨F1, F2, F3⟩ := three_new w s d
  have K1 := Lib.hid ((((Keeps.refl none' w).alloc (.cells #[.int .i64 s.r, .int .i64 s.g, .int .i64 s.b, .int .i64 s.a] 26)).alloc (.cells #[.int .i64 d.r, .int .i64 d.g, .int .i64 d.b, .int .i64 d.a] 26)).alloc (.cells #[.int .i64 0, .int .i64 0, .int .i64 0, .int .i64 0] 26))
  have C1 := Lib.hid (fun w => share_any (k := (Px.wayRow 0).1) (o := d.a) hd.2.2.2 w)
  have C2 := Lib.hid (fun w => share_any (k := (Px.wayRow 0).2) (o := s.a) hs.2.2.2 w)
  have hf := Px.share_byte (k := (Px.wayRow 0).1) hd.2.2.2
  have hg := Px.share_byte (k := (Px.wayRow 0).2) hs.2.2.2
  have HE := Lib.hid (show Px.F k d.a = Px.shareOf (Px.wayRow 0).1 d.a ∧ Px.G k s.a = Px.shareOf (Px.wayRow 0).2 s.a by unfold Px.F Px.G; rw [show Px.wayNo k = 0 by unfold Px.wayNo; rw [if_pos (by omega)]]; exact ⟨rfl, rfl⟩)
  unfold Px.way Px.laid
  simp only [HE.out.1, HE.out.2]
  clear HE
  generalize Px.shareOf (Px.wayRow 0).1 d.a = f at *
  generalize Px.shareOf (Px.wayRow 0).2 s.a = g at *
  generalize (Px.wayRow 0).1 = q1 at *
  generalize (Px.wayRow 0).2 = q2 at *
  have A0 := Lib.hid (fun w => mul_any hs.1 hf w)
  have A1 := Lib.hid (fun w => mul_any hs.2.1 hf w)
  have A2 := Lib.hid (fun w => mul_any hs.2.2.1 hf w)
  have A3 := Lib.hid (fun w => mul_any hs.2.2.2 hf w)
  have B0 := Lib.hid (fun w => mul_any hd.1 hg w)
  have B1 := Lib.hid (fun w => mul_any hd.2.1 hg w)
  have B2 := Lib.hid (fun w => mul_any hd.2.2.1 hg w)
  have B3 := Lib.hid (fun w => mul_any hd.2.2.2 hg w)
  have E0 := Lib.hid (sum_min (Px.mul_byte hs.1 hf) (Px.mul_byte hd.1 hg))
  have E1 := Lib.hid (sum_min (Px.mul_byte hs.2.1 hf) (Px.mul_byte hd.2.1 hg))
  have E2 := Lib.hid (sum_min (Px.mul_byte hs.2.2.1 hf) (Px.mul_byte hd.2.2.1 hg))
  have E3 := Lib.hid (sum_min (Px.mul_byte hs.2.2.2 hf) (Px.mul_byte hd.2.2.2 hg))
  clear hs hd hf hg
  generalize Px.mul s.r f = p0 at *
  generalize Px.mul s.g f = p1 at *
  generalize Px.mul s.b f = p2 at *
  generalize Px.mul s.a f = p3 at *
  generalize Px.mul d.r g = r0 at *
  generalize Px.mul d.g g = r1 at *
  generalize Px.mul d.b g = r2 at *
  generalize Px.mul d.a g = r3 at *
  generalize min (p0 + r0) 255 = v0 at *
  generalize min (p1 + r1) 255 = v1 at *
  generalize min (p2 + r2) 255 = v2 at *
  generalize min (p3 + r3) 255 = v3 at *
  have tn1 : decide (k < 0) = false := by simp; omega
  have tn2 : decide (12 ≤ k) = true := by simpa using hk
  clear hk
  go_enter Tryd.func19, Tryd.ntmps19
  go_wp2_with fail
  generalize ((w.alloc (.cells #[.int .i64 s.r, .int .i64 s.g, .int .i64 s.b, .int .i64 s.a] 26)).alloc (.cells #[.int .i64 d.r, .int .i64 d.g, .int .i64 d.b, .int .i64 d.a] 26)).alloc (.cells #[.int .i64 0, .int .i64 0, .int .i64 0, .int .i64 0] 26) = wa at *
  obtain ⟨S, hS⟩ : ∃ S, S = w.heap.size := ⟨_, rfl⟩
  rw [← hS] at F1 F2 F3
  rw [← hS]
  obtain ⟨D, hD⟩ : ∃ D, D = S + 1 := ⟨_, rfl⟩
  obtain ⟨R, hR⟩ : ∃ R, R = D + 1 := ⟨_, rfl⟩
  rw [← hD] at F2 F3
  rw [← hR] at F3
  rw [← hD, ← hR]
  have AP : w.heap.size ≤ S ∧ S < D ∧ D < R := by omega
  clear hS hD hR
  have c3s := F1.c3
  have c3d := F2.c3
  go_quiet ((go_at_call 29; refine Calls.quiet_of_same (C1.out _)))
  go_wp2_with fail
  have G1 := Lib.hid (show Four (wa.drewN nq) S s.r s.g s.b s.a from F1)
  have G2 := Lib.hid (show Four (wa.drewN nq) D d.r d.g d.b d.a from F2)
  have G3 := Lib.hid (show Four (wa.drewN nq) R 0 0 0 0 from F3)
  have g1 : (wa.drewN nq).cell? ⟨0, 1, none⟩ = some (.int .i64 q2) := w1
  have g2 : (wa.drewN nq).cell? ⟨S, 3, none⟩ = some (.int .i64 s.a) := c3s
  have K2 := Lib.hid (K1.out.drewN nq)
  clear F1 F2 F3 c3s c3d w0 w1 K1 C1
  generalize wa.drewN nq = wb at *
  go_quiet ((go_at_call 29; refine Calls.quiet_of_same (C2.out _)))
  have H1 := Lib.hid (show Four (wb.drewN nq) S s.r s.g s.b s.a from G1.out)
  have H2 := Lib.hid (show Four (wb.drewN nq) D d.r d.g d.b d.a from G2.out)
  have H3 := Lib.hid (show Four (wb.drewN nq) R 0 0 0 0 from G3.out)
  have K3 := Lib.hid (K2.out.drewN nq)
  clear G1 G2 G3 g1 g2 K2 C2
  generalize wb.drewN nq = wc at *
  have L0 := Lib.hid (show Lay w S D R wc.heap.size s d 0 0 0 0 (wc.alloc (.cells #[.int .i64 0, .int .i64 0, .int .i64 0, .int .i64 0] 26)) from ⟨H1.out.alloc _, H2.out.alloc _, H3.out.alloc _, Four.new _ _ _ _ _, K3.out.alloc _⟩)
  have AQ := Lib.hid (show Apart w S D R wc.heap.size from ⟨AP.1, AP.2.1, AP.2.2, H3.out.lt⟩)
  clear H1 H2 H3 K3 AP
  go_wp2_with fail
  generalize wc.alloc (.cells #[.int .i64 0, .int .i64 0, .int .i64 0, .int .i64 0] 26) = wd at *
  generalize wc.heap.size = L at *
  go_loopw [31] (Cnt4 (Lay w S D R L s d 0 0 0 0) (Lay w S D R L s d v0 0 0 0) (Lay w S D R L s d v0 v1 0 0) (Lay w S D R L s d v0 v1 v2 0) (Lay w S D R L s d v0 v1 v2 v3)) (fun cnt _ => 4 - (intOf cnt).toNat)
  case atStart => exact .inl ⟨rfl, L0.out⟩
  case round =>
    rcases hrel with ⟨rfl, hW⟩ | ⟨rfl, hW⟩ | ⟨rfl, hW⟩ | ⟨rfl, hW⟩ | ⟨rfl, hW⟩
    · have c0 := hW.src.c0
      have d0 := hW.gnd.c0
      have f0 := hW.on.fr (i := 0)
      have o0 := hW.on.c0
      have X := Lib.hid (hW.s0 AQ.out v0)
      clear hW
      have e1 := E0.out.1
      have e2 := E0.out.2
      go_wp2_with fail
      go_still_tail 13, (by kernel_rfl)
      still_call (A0.out _)
      repeat still_step
      still_call (B0.out _)
      repeat still_step
      try refine wpStill_nil ?_
      change wpList _ _ _ _ _ wr.drew
      clear e1 e2
      go_wp2_with fail
      go_roundw
      case rel => exact .inr (.inl ⟨rfl, X.out⟩)
      case measure => decide
    · have c1 := hW.src.c1
      have d1 := hW.gnd.c1
      have f1 := hW.on.fr (i := 1)
      have o1 := hW.on.c1
      have X := Lib.hid (hW.s1 AQ.out v1)
      clear hW
      have e1 := E1.out.1
      have e2 := E1.out.2
      go_wp2_with fail
      go_still_tail 13, (by kernel_rfl)
      still_call (A1.out _)
      repeat still_step
      still_call (B1.out _)
      repeat still_step
      try refine wpStill_nil ?_
      change wpList _ _ _ _ _ wr.drew
      clear e1 e2
      go_wp2_with fail
      go_roundw
      case rel => exact .inr (.inr (.inl ⟨rfl, X.out⟩))
      case measure => decide
    · have c2 := hW.src.c2
      have d2 := hW.gnd.c2
      have f2 := hW.on.fr (i := 2)
      have o2 := hW.on.c2
      have X := Lib.hid (hW.s2 AQ.out v2)
      clear hW
      have e1 := E2.out.1
      have e2 := E2.out.2
      go_wp2_with fail
      go_still_tail 13, (by kernel_rfl)
      still_call (A2.out _)
      repeat still_step
      still_call (B2.out _)
      repeat still_step
      try refine wpStill_nil ?_
      change wpList _ _ _ _ _ wr.drew
      clear e1 e2
      go_wp2_with fail
      go_roundw
      case rel => exact .inr (.inr (.inr (.inl ⟨rfl, X.out⟩)))
      case measure => decide
    · have c3 := hW.src.c3
      have d3 := hW.gnd.c3
      have f3 := hW.on.fr (i := 3)
      have o3 := hW.on.c3
      have X := Lib.hid (hW.s3 AQ.out v3)
      clear hW
      have e1 := E3.out.1
      have e2 := E3.out.2
      go_wp2_with fail
      go_still_tail 13, (by kernel_rfl)
      still_call (A3.out _)
      repeat still_step
      still_call (B3.out _)
      repeat still_step
      try refine wpStill_nil ?_
      change wpList _ _ _ _ _ wr.drew
      clear e1 e2
      go_wp2_with fail
      go_roundw
      case rel => exact .inr (.inr (.inr (.inr (⟨rfl, X.out⟩))))
      case measure => decide
    · have c0 := hW.on.c0
      have c1 := hW.on.c1
      have c2 := hW.on.c2
      have c3 := hW.on.c3
      have f0 := hW.res.fr (i := 0)
      have f1 := hW.res.fr (i := 1)
      have f2 := hW.res.fr (i := 2)
      have f3 := hW.res.fr (i := 3)
      have z0 := hW.res.c0
      have z1 := hW.res.c1
      have z2 := hW.res.c2
      have z3 := hW.res.c3
      have h := Lib.hid (hW.put AQ.out)
      clear hW
      go_wp2_with fail
      refine bodyPost_ret (results_cell_row rfl _ _ R 26 #[.int .i64 v0, .int .i64 v1, .int .i64 v2, .int .i64 v3] (0, 0) _ rfl h.out.1 Tryd.underlying26 rfl (by kernel_rfl)) rfl ?_
      exact ⟨rfl, h.out.2⟩
theorem way_any (k : Int) (s d : Px.Pix) (hs : s.bytes) (hd : d.bytes) (w : World) (hW : Ways w) :
    Calls Tryd.prog 19 #[.int .i64 k, .agg #[.int .i64 s.r, .int .i64 s.g, .int .i64 s.b, .int .i64 s.a], .agg #[.int .i64 d.r, .int .i64 d.g, .int .i64 d.b, .int .i64 d.a]] w fun e w' =>
    e = .returned (.agg #[.int .i64 (Px.way k s d).r, .int .i64 (Px.way k s d).g, .int .i64 (Px.way k s d).b, .int .i64 (Px.way k s d).a]) ∧ Keeps none' w w' := by
  by_cases h0 : k < 0
  · exact way_low k h0 s d hs hd w hW
  · by_cases h1 : 12 ≤ k
    · exact way_high k h1 s d hs hd w hW
    · exact way_nat k.toNat (by omega) k (by omega) s d hs hd w hW
end Go.Proofs.YtfofghakjjblfaaDoor
