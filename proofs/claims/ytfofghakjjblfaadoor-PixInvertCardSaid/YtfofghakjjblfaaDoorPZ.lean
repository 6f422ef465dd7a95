/- A pixel's colours replaced by a table. -/
import Derived.Test.YtfofghakjjblfaaDoorPV
import Derived.Test.YtfofghakjjblfaaDoorPX
namespace Go.Proofs.YtfofghakjjblfaaDoor
open Go.RowKit
set_option linter.unusedVariables false

theorem entry_any (w : World) (B : Nat) (f : Int → Int) (h : TblTo w B 256 f) (v : Int) (hv : Px.Byte v) : Calls Tryd.prog 36 #[.slice (some ⟨B, 0, none⟩) 256 256, .int .i64 v] w fun e w' => e = .returned (.int .i64 (f v)) ∧ w' = w := by
  obtain ⟨v0, v1⟩ := hv
  obtain ⟨m, rfl⟩ := Int.eq_ofNat_of_zero_le v0
  have hc := h.at (i := m) (by omega)
  have t1 : decide ((m : Int) < 0) = false := by simp
  have t2 : decide ((256 : Int) ≤ (m : Int)) = false := by simp; omega
  have hm : (m : Int) < 256 := by omega
  clear h
  generalize f m = r at *
  go_enter Tryd.func36, Tryd.ntmps36
  go_wp2_with fail
  go_ret
  exact ⟨rfl, rfl⟩
theorem Way1.later {w : World} {B R : Nat} {x y z a : Int} {wr w' : World} (h : Way1 w B R x y z a wr) (k : Keeps none' wr w') : Way1 w B R x y z a w' := ⟨h.on.later k, h.res.later k, h.keeps.next k⟩
theorem Way1.r0 {w : World} {B R : Nat} {x y z a : Int} {wr : World} (h : Way1 w B R x y z a wr) (hB : w.heap.size ≤ B) (hR : B < R) (v : Int) : Way1 w B R v y z a (wr.setCell ⟨B, 0, none⟩ (.int .i64 v)) :=
  ⟨h.on.s0 v, h.res.set (by omega) _, h.keeps.setCell (fun e => by simp only at e; omega) _⟩
theorem Way1.r1 {w : World} {B R : Nat} {x y z a : Int} {wr : World} (h : Way1 w B R x y z a wr) (hB : w.heap.size ≤ B) (hR : B < R) (v : Int) : Way1 w B R x v z a (wr.setCell ⟨B, 1, none⟩ (.int .i64 v)) :=
  ⟨h.on.s1 v, h.res.set (by omega) _, h.keeps.setCell (fun e => by simp only at e; omega) _⟩
theorem Way1.r2 {w : World} {B R : Nat} {x y z a : Int} {wr : World} (h : Way1 w B R x y z a wr) (hB : w.heap.size ≤ B) (hR : B < R) (v : Int) : Way1 w B R x y v a (wr.setCell ⟨B, 2, none⟩ (.int .i64 v)) :=
  ⟨h.on.s2 v, h.res.set (by omega) _, h.keeps.setCell (fun e => by simp only at e; omega) _⟩
theorem Way1.r3 {w : World} {B R : Nat} {x y z a : Int} {wr : World} (h : Way1 w B R x y z a wr) (hB : w.heap.size ≤ B) (hR : B < R) (v : Int) : Way1 w B R x y z v (wr.setCell ⟨B, 3, none⟩ (.int .i64 v)) :=
  ⟨h.on.s3 v, h.res.set (by omega) _, h.keeps.setCell (fun e => by simp only at e; omega) _⟩
namespace Px
/-- A table replaces the bare colours. -/
def mapped (f : Int → Int) (p : Pix) : Pix := mult ⟨f (bare p.r p.a), f (bare p.g p.a), f (bare p.b p.a), p.a⟩
theorem mapped_bytes {f : Int → Int} (hf : ∀ v, Byte v → Byte (f v)) {p : Pix} (hp : p.bytes) : (⟨f (bare p.r p.a), f (bare p.g p.a), f (bare p.b p.a), p.a⟩ : Pix).bytes :=
  ⟨hf _ (bare_byte hp.1 hp.2.2.2), hf _ (bare_byte hp.2.1 hp.2.2.2), hf _ (bare_byte hp.2.2.1 hp.2.2.2), hp.2.2.2⟩
theorem mapped_ok {f : Int → Int} (hf : ∀ v, Byte v → Byte (f v)) {p : Pix} (hp : p.bytes) : (mapped f p).ok := mult_ok (mapped_bytes hf hp)
end Px
set_option maxHeartbeats 1600000 in
theorem map_any (w : World) (T : Nat) (f : Int → Int) (h : TblTo w T 256 f) (hf : ∀ v, Px.Byte v → Px.Byte (f v)) (p : Px.Pix) (hp : p.bytes) :
    Calls Tryd.prog 25 #[.slice (some ⟨T, 0, none⟩) 256 256, .agg #[.int .i64 p.r, .int .i64 p.g, .int .i64 p.b, .int .i64 p.a]] w fun e w' => e = .returned (.agg #[.int .i64 (Px.mapped f p).r, .int .i64 (Px.mapped f p).g, .int .i64 (Px.mapped f p).b, .int .i64 (Px.mapped f p).a]) ∧ Keeps none' w w' := by
  have CU := Lib.hid (fun w => unmultiply_any p hp w)
  have CM := Lib.hid (fun w => multiply_any _ (Px.mapped_bytes hf hp) w)
  have ub := Px.unmul_bytes hp
  have E0 := Lib.hid (fun w h => entry_any w T f h (Px.unmul p).r ub.1)
  have E1 := Lib.hid (fun w h => entry_any w T f h (Px.unmul p).g ub.2.1)
  have E2 := Lib.hid (fun w h => entry_any w T f h (Px.unmul p).b ub.2.2.1)
  have HT := Lib.hid h
  unfold Px.mapped
  obtain ⟨r, g, b, a⟩ := p
  simp only [Px.unmul] at *
  generalize Px.bare r a = ur at *
  generalize Px.bare g a = ug at *
  generalize Px.bare b a = ub' at *
  generalize f ur = fr at *
  generalize f ug = fg at *
  generalize f ub' = fb at *
  generalize Px.mult ⟨fr, fg, fb, a⟩ = m at *
  have W0 := Lib.hid (show Way1 w w.heap.size (w.heap.size + 1) r g b a ((w.alloc (.cells #[.int .i64 r, .int .i64 g, .int .i64 b, .int .i64 a] 26)).alloc (.cells #[.int .i64 0, .int .i64 0, .int .i64 0, .int .i64 0] 26)) from
    ⟨(Four.new _ _ _ _ _).alloc _, by have := Four.new (w.alloc (.cells #[.int .i64 r, .int .i64 g, .int .i64 b, .int .i64 a] 26)) 0 0 0 0; simpa using this, ((Keeps.refl _ _).alloc _).alloc _⟩)
  clear hf hp ub h
  go_enter Tryd.func25, Tryd.ntmps25
  go_wp2_with fail
  generalize (w.alloc (.cells #[.int .i64 r, .int .i64 g, .int .i64 b, .int .i64 a] 26)).alloc (.cells #[.int .i64 0, .int .i64 0, .int .i64 0, .int .i64 0] 26) = w1 at *
  have LB : w.heap.size ≤ w.heap.size := Nat.le_refl _
  obtain ⟨R, hR⟩ : ∃ R, R = w.heap.size + 1 := ⟨_, rfl⟩
  obtain ⟨B, hB⟩ : ∃ B, B = w.heap.size := ⟨_, rfl⟩
  rw [← hR, ← hB] at W0
  rw [← hR, ← hB]
  have LB : w.heap.size ≤ B := by omega
  have LR : B < R := by omega
  clear hR hB
  refine (CU.out _).mono ?_
  rintro e w2 ⟨rfl, hk⟩
  have W1 := Lib.hid (W0.out.later hk)
  clear hk W0
  have c0 := W1.out.on.c0
  have c1 := W1.out.on.c1
  have c2 := W1.out.on.c2
  have c3 := W1.out.on.c3
  have f0 := W1.out.on.fr (i := 0)
  have f1 := W1.out.on.fr (i := 1)
  have f2 := W1.out.on.fr (i := 2)
  have f3 := W1.out.on.fr (i := 3)
  have W2 := Lib.hid ((((W1.out.r0 LB LR ur).r1 LB LR ug).r2 LB LR ub').r3 LB LR a)
  go_wp2_with fail
  generalize (((w2.setCell ⟨B, 0, none⟩ (.int .i64 ur)).setCell ⟨B, 1, none⟩ (.int .i64 ug)).setCell ⟨B, 2, none⟩ (.int .i64 ub')).setCell ⟨B, 3, none⟩ (.int .i64 a) = w3 at *
  clear c0 c1 c2 c3 f0 f1 f2 f3 W1 CU
  go_loopw [8] (Cnt3 (Way1 w B R ur ug ub' a) (Way1 w B R fr ug ub' a) (Way1 w B R fr fg ub' a) (Way1 w B R fr fg fb a)) (fun cnt _ => 3 - (intOf cnt).toNat)
  case atStart => exact .inl ⟨rfl, W2.out⟩
  case round =>
    rcases hrel with ⟨rfl, hW⟩ | ⟨rfl, hW⟩ | ⟨rfl, hW⟩ | ⟨rfl, hW⟩
    · have c0 := hW.on.c0
      have f0 := hW.on.fr (i := 0)
      have X := Lib.hid (hW.r0 LB LR fr)
      have E := Lib.hid (E0.out wr (HT.out.later hW.keeps))
      clear hW
      go_wp2_with fail
      refine E.out.mono ?_
      rintro e w' ⟨rfl, rfl⟩
      go_wp2_with fail
      go_roundw
      case rel => exact .inr (.inl ⟨rfl, X.out⟩)
      case measure => decide
    · have c1 := hW.on.c1
      have f1 := hW.on.fr (i := 1)
      have X := Lib.hid (hW.r1 LB LR fg)
      have E := Lib.hid (E1.out wr (HT.out.later hW.keeps))
      clear hW
      go_wp2_with fail
      refine E.out.mono ?_
      rintro e w' ⟨rfl, rfl⟩
      go_wp2_with fail
      go_roundw
      case rel => exact .inr (.inr (.inl ⟨rfl, X.out⟩))
      case measure => decide
    · have c2 := hW.on.c2
      have f2 := hW.on.fr (i := 2)
      have X := Lib.hid (hW.r2 LB LR fb)
      have E := Lib.hid (E2.out wr (HT.out.later hW.keeps))
      clear hW
      go_wp2_with fail
      refine E.out.mono ?_
      rintro e w' ⟨rfl, rfl⟩
      go_wp2_with fail
      go_roundw
      case rel => exact .inr (.inr (.inr (⟨rfl, X.out⟩)))
      case measure => decide
    · have c0 := hW.on.c0
      have c1 := hW.on.c1
      have c2 := hW.on.c2
      have c3 := hW.on.c3
      have HW := Lib.hid hW
      clear hW
      go_wp2_with fail
      refine (CM.out _).mono ?_
      rintro e w4 ⟨rfl, hk⟩
      have W3 := Lib.hid (HW.out.later hk)
      clear hk c0 c1 c2 c3
      have z0 := W3.out.res.c0
      have z1 := W3.out.res.c1
      have z2 := W3.out.res.c2
      have z3 := W3.out.res.c3
      have f0 := W3.out.res.fr (i := 0)
      have f1 := W3.out.res.fr (i := 1)
      have f2 := W3.out.res.fr (i := 2)
      have f3 := W3.out.res.fr (i := 3)
      have Y1 := Lib.hid ((((W3.out.res.s0 m.r).s1 m.g).s2 m.b).s3 m.a)
      have Y2 := Lib.hid ((((W3.out.keeps.setCell (p := ⟨R, 0, none⟩) (fun e => by simp only at e; omega) (.int .i64 m.r)).setCell (p := ⟨R, 1, none⟩) (fun e => by simp only at e; omega) (.int .i64 m.g)).setCell (p := ⟨R, 2, none⟩) (fun e => by simp only at e; omega) (.int .i64 m.b)).setCell (p := ⟨R, 3, none⟩) (fun e => by simp only at e; omega) (.int .i64 m.a))
      go_wp2_with fail
      refine bodyPost_ret (results_cell_row rfl _ _ R 26 #[.int .i64 m.r, .int .i64 m.g, .int .i64 m.b, .int .i64 m.a] (0, 0) _ rfl Y1.out Tryd.underlying26 rfl (by kernel_rfl)) rfl ?_
      exact ⟨rfl, Y2.out⟩
end Go.Proofs.YtfofghakjjblfaaDoor
