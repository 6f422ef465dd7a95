/- Turn. -/
import Derived.Test.YtboocllckolmgaaVA
namespace Go.Proofs.Ytboocllckolmgaa
open Go.RowKit
set_option linter.unusedVariables false

/-- A shape turned. -/
def turned (ps : List Pt) (q r : Pt) : List Pt := ps.map (fun p => timesZ p q r)
def pv (p : Pt) : Value × Value := (.int .i64 p.X, .int .i64 p.Y)
theorem turn_bits {p q r : Pt} (hp : near p = true) (hq : near q = true) (hr : near r = true) :
    ∃ u v x y, cMulBits (fb p.X) (fb p.Y) (fb q.X) (fb q.Y) = some (u, v) ∧ cSumBits .add .f64 u v (fb r.X) (fb r.Y) = some (x, y) ∧ floatToIntVal .f64 x .i64 = some (timesZ p q r).X ∧ floatToIntVal .f64 y .i64 = some (timesZ p q r).Y := by
  have t := times_fits hp hq hr
  have e : (2 : Nat) ^ 53 = 2048 * 2 ^ 42 := by decide
  have a1 := near_iff.1 hp
  have a2 := near_iff.1 hq
  have a3 := near_iff.1 hr
  have b1 := mul_coord (a := p.X) (b := q.X) (by omega) (by omega)
  have b2 := mul_coord (a := p.Y) (b := q.Y) (by omega) (by omega)
  have b3 := mul_coord (a := p.X) (b := q.Y) (by omega) (by omega)
  have b4 := mul_coord (a := p.Y) (b := q.X) (by omega) (by omega)
  have e2 : (2 : Nat) ^ 52 = 4096 * 2 ^ 40 := by decide
  unfold near at hp hq hr
  rw [Bool.and_eq_true] at hp hq hr
  obtain ⟨u, v, h1, f1, f2⟩ := cmul (fb_fl hp.1) (fb_fl hp.2) (fb_fl hq.1) (fb_fl hq.2) (by omega) (by omega) (by omega) (by omega)
  obtain ⟨x, y, h2, g1, g2⟩ := cadd f1 f2 (fb_fl hr.1) (fb_fl hr.2) (by unfold timesZ at t; simp only at t; omega) (by unfold timesZ at t; simp only at t; omega)
  exact ⟨u, v, x, y, h1, h2, g1.toInt (by unfold timesZ at t; simp only at t; omega), g2.toInt (by unfold timesZ at t; simp only at t; omega)⟩

theorem run_make_points (k : Nat) (hk : k ≤ 256) (w : World) : (Instr.makeSlice 22 (.int .i64 (k : Int)) (.int .i64 (k : Int))).run Try.prog w = .ok (.slice (some ⟨w.heap.size, 0, none⟩) k k) (w.alloc (.cells (madeCells #[.int .i64 0, .int .i64 0] (k * 2)) 37)) := by
  obtain ⟨i, hi, hzz⟩ := Option.map_eq_some_iff.1 info37
  simp only [Prod.mk.injEq] at hzz
  obtain ⟨hz, hs, hb⟩ := hzz
  have hr := run_make (P := Try.prog) w 22 37 i _ Try.underlying22 hi hz .i64 .i64 k k (by omega) (Int.le_refl _) (by rw [hb]; omega) (by omega)
  simp only [Int.toNat_natCast, hs] at hr
  exact hr
theorem Row2.pts {w : World} {g n : Nat} {ps : List Pt} (h : Row2 w g n n 37 (ps.map pv)) (hl : ps.length = n) (hf : ∀ p ∈ ps, Fits p) : Pts w (some ⟨g, 0, none⟩) n ps := by
  refine ⟨hl, hf, fun _ => ⟨g, 0, rfl, fun i p hp => ?_⟩⟩
  have hi : i < n := by have := (List.getElem?_eq_some_iff.1 hp).1; omega
  have k := h.at hi (by rw [List.getElem?_map, hp]; rfl)
  rw [Nat.zero_add]
  exact k

/-- What Turn tells when it refuses. -/
def Refused (w : World) (e : Ending) (w' : World) : Prop := e = .returned (.tuple #[.slice none 0 0, .int .i64 31]) ∧ Below w.heap.size w w'
/-- What it tells else: points, in memory of its own. -/
def ToldT (w : World) (ps : List Pt) (e : Ending) (w' : World) : Prop :=
  ∃ g, e = .returned (.tuple #[.slice (some ⟨g, 0, none⟩) ps.length ps.length, .int .i64 0]) ∧ Pts w' (some ⟨g, 0, none⟩) ps.length ps ∧ w.heap.size ≤ g ∧ Below w.heap.size w w'

theorem two_points (w : World) (p q : Pt) (hp : Fits p) (hq : Fits q) : Pts (w.alloc (.cells #[.int .i64 p.X, .int .i64 p.Y, .int .i64 q.X, .int .i64 q.Y] 37)) (some ⟨w.heap.size, 0, none⟩) 2 [p, q] :=
  pts_lit w #[.int .i64 p.X, .int .i64 p.Y, .int .i64 q.X, .int .i64 q.Y] 37 [p, q] rfl (by
    intro r hr
    simp only [List.mem_cons, List.not_mem_nil, or_false] at hr
    rcases hr with rfl | rfl
    · exact hp
    · exact hq)

set_option maxHeartbeats 1600000 in
theorem turn_no1 (w : World) (a : Option Addr) (n c : Nat) (ps : List Pt) (q r : Pt) (h : Pts w a n ps) (hn : n ≤ 33554432) (hs : shape ps = false) :
    Calls Try.prog 18 #[.slice a n c, .agg #[.int .i64 q.X, .int .i64 q.Y], .agg #[.int .i64 r.X, .int .i64 r.Y]] w (Refused w) := by
  have b0 : Below w.heap.size w ((w.alloc (.cells #[.int .i64 q.X, .int .i64 q.Y] 37)).alloc (.cells #[.int .i64 r.X, .int .i64 r.Y] 37)) := ((Below.refl _ _).alloc (Nat.le_refl _) _).alloc (by simp) _
  have C := Lib.hid (shape_any _ a n c ps (h.below b0) hn)
  rw [hs] at C
  have HB0 := Lib.hid b0
  clear h hs b0
  go_enter Try.func18, Try.ntmps18
  go_wp2_with fail
  refine C.out.mono ?_
  rintro e w1 ⟨rfl, hb⟩
  have HB := Lib.hid (below_more HB0.out hb (Nat.le_refl _))
  clear hb C HB0
  go_wp2_with fail
  go_ret2
  exact ⟨rfl, HB.out⟩

/-- The six cells that Turn's body reads. -/
def Boxes (w : World) (B : Nat) (q r : Pt) : Prop :=
  w.cell? ⟨B, 0, none⟩ = some (.int .i64 q.X) ∧ w.cell? ⟨B, 1, none⟩ = some (.int .i64 q.Y) ∧ w.cell? ⟨B + 1, 0, none⟩ = some (.int .i64 r.X) ∧ w.cell? ⟨B + 1, 1, none⟩ = some (.int .i64 r.Y)
theorem Boxes.below {w w' : World} {B : Nat} {q r : Pt} (h : Boxes w B q r) (hb : Below w.heap.size w w') : Boxes w' B q r :=
  ⟨cell_keep h.1 hb, cell_keep h.2.1 hb, cell_keep h.2.2.1 hb, cell_keep h.2.2.2 hb⟩
theorem boxes_new (w : World) (q r : Pt) : Boxes ((w.alloc (.cells #[.int .i64 q.X, .int .i64 q.Y] 37)).alloc (.cells #[.int .i64 r.X, .int .i64 r.Y] 37)) w.heap.size q r := by
  have o1 := one_pt w q 37
  have o2 := one_pt (w.alloc (.cells #[.int .i64 q.X, .int .i64 q.Y] 37)) r 37
  have hs : (w.alloc (.cells #[.int .i64 q.X, .int .i64 q.Y] 37)).heap.size = w.heap.size + 1 := by simp
  rw [hs] at o2
  have b : Below (w.alloc (.cells #[.int .i64 q.X, .int .i64 q.Y] 37)).heap.size (w.alloc (.cells #[.int .i64 q.X, .int .i64 q.Y] 37)) ((w.alloc (.cells #[.int .i64 q.X, .int .i64 q.Y] 37)).alloc (.cells #[.int .i64 r.X, .int .i64 r.Y] 37)) := (Below.refl _ _).alloc (Nat.le_refl _) _
  exact ⟨cell_keep o1.1 b, cell_keep o1.2 b, o2.1, o2.2⟩

set_option maxHeartbeats 1600000 in
theorem turn_no2 (w : World) (a : Option Addr) (n c : Nat) (ps : List Pt) (q r : Pt) (h : Pts w a n ps) (hn : n ≤ 33554432) (hs : shape ps = true) (hq : Fits q) (hr : Fits r) (hqr : (near q && near r) = false) :
    Calls Try.prog 18 #[.slice a n c, .agg #[.int .i64 q.X, .int .i64 q.Y], .agg #[.int .i64 r.X, .int .i64 r.Y]] w (Refused w) := by
  have b0 : Below w.heap.size w ((w.alloc (.cells #[.int .i64 q.X, .int .i64 q.Y] 37)).alloc (.cells #[.int .i64 r.X, .int .i64 r.Y] 37)) := ((Below.refl _ _).alloc (Nat.le_refl _) _).alloc (by simp) _
  have C := Lib.hid (shape_any _ a n c ps (h.below b0) hn)
  rw [hs] at C
  have HB0 := Lib.hid b0
  have BX := Lib.hid (boxes_new w q r)
  have HQ := Lib.hid (And.intro hq hr)
  have HN := Lib.hid hqr
  clear h hs b0 hq hr hqr
  go_enter Try.func18, Try.ntmps18
  go_wp2_with fail
  refine C.out.mono ?_
  rintro e w1 ⟨rfl, hb⟩
  have HB := Lib.hid (below_more HB0.out hb (Nat.le_refl _))
  obtain ⟨x0, x1, x2, x3⟩ := BX.out.below hb
  clear hb C HB0 BX
  have CP := Lib.hid (points_any (w1.alloc (.cells #[.int .i64 q.X, .int .i64 q.Y, .int .i64 r.X, .int .i64 r.Y] 37)) (some ⟨w1.heap.size, 0, none⟩) 2 2 [q, r] (two_points w1 q r HQ.out.1 HQ.out.2) (by omega))
  have e1 : [q, r].all near = false := by have := HN.out; simpa using this
  rw [e1] at CP
  clear e1
  go_wp2_with fail
  refine CP.out.mono ?_
  rintro e w2 ⟨rfl, hb⟩
  have HB2 := Lib.hid (below_more (HB.out.alloc HB.out.size (.cells #[.int .i64 q.X, .int .i64 q.Y, .int .i64 r.X, .int .i64 r.Y] 37)) hb (Nat.le_refl _))
  clear hb CP HB x0 x1 x2 x3
  go_wp2_with fail
  go_ret2
  exact ⟨rfl, HB2.out⟩
end Go.Proofs.Ytboocllckolmgaa
