/- Turn's loop. -/
import Derived.Test.YtboocllckolmgaaG
namespace Go.Proofs.Ytboocllckolmgaa
open Go.RowKit
set_option linter.unusedVariables false

/-- What Turn tells of a shape. -/
def TurnSays (ok : Bool) (w : World) (ts : List Pt) (e : Ending) (w' : World) : Prop := if ok then ToldT w ts e w' else Refused w e w'
theorem turn_ok {w : World} {ts : List Pt} {e : Ending} {w' : World} (h : ToldT w ts e w') : TurnSays true w ts e w' := h
theorem turn_bad {w : World} {ts : List Pt} {e : Ending} {w' : World} (h : Refused w e w') : TurnSays false w ts e w' := h
/-- What lies there while Turn's loop goes: its own row, so far; the old memory. -/
def Held (w : World) (g n i : Nat) (vs : List (Value × Value)) (w' : World) : Prop := Row2 w' g n i 37 vs ∧ Below w.heap.size w w' ∧ w.heap.size + 1 < g
theorem Held.below {w w1 w2 : World} {g n i : Nat} {vs : List (Value × Value)} (h : Held w g n i vs w1) (hb : Below w1.heap.size w1 w2) : Held w g n i vs w2 :=
  ⟨h.1.below hb, below_more h.2.1 hb (Nat.le_refl _), h.2.2⟩
theorem Held.drew {w w1 : World} {g n i : Nat} {vs : List (Value × Value)} (h : Held w g n i vs w1) : Held w g n i vs w1.drew :=
  h.below ⟨rfl, rfl, rfl, Nat.le_refl _, fun _ _ => rfl⟩
theorem Row2.keep {w : World} {g n i k : Nat} {ty : TypeId} {vs : List (Value × Value)} (h : Row2 w g n i ty vs) (hk : i * 2 ≤ k) (u : Value) : Row2 (w.setCell ⟨g, k, none⟩ u) g n i ty vs := by
  obtain ⟨cur, h1, h2, h3⟩ := h
  refine ⟨_, block_set h1 _, by simpa using h2, fun j v hj hv => ?_⟩
  obtain ⟨k1, k2⟩ := h3 j v hj hv
  exact ⟨by rw [Array.getElem?_setIfInBounds_ne (by omega)]; exact k1, by rw [Array.getElem?_setIfInBounds_ne (by omega)]; exact k2⟩
theorem Held.store {w w1 : World} {g n i : Nat} {vs : List (Value × Value)} (h : Held w g n i vs w1) (x y : Value) : Held w g n i vs ((w1.setCell ⟨g, i * 2, none⟩ x).setCell ⟨g, i * 2 + 1, none⟩ y) :=
  ⟨(h.1.keep (Nat.le_refl _) x).keep (Nat.le_succ _) y, below_set2 h.2.1 (by have := h.2.2; omega) x y, h.2.2⟩
theorem cell_set2 {w : World} {b o g i j : Nat} {v x y : Value} (h : w.cell? ⟨b, o, none⟩ = some v) (hb : b ≠ g) : ((w.setCell ⟨g, i, none⟩ x).setCell ⟨g, j, none⟩ y).cell? ⟨b, o, none⟩ = some v :=
  (World.cell?_of_block (w := w) ((Below.heap_setCell _ _ _ _ (by simpa using hb)).trans (Below.heap_setCell _ _ _ _ (by simpa using hb)))).trans h
/-- The condition on the world for the region. -/
def Six (B P : Nat) (p q r : Pt) (w' : World) : Prop :=
  w'.cell? ⟨P, 0, none⟩ = some (.int .i64 p.X) ∧ w'.cell? ⟨P, 1, none⟩ = some (.int .i64 p.Y) ∧ Boxes w' B q r

set_option maxHeartbeats 3200000 in
theorem turn_loop (w : World) (a : Option Addr) (n c : Nat) (ps : List Pt) (q r : Pt) (h : Pts w a n ps) (hs : shape ps = true) (hq : near q = true) (hr : near r = true) :
    Calls Try.prog 18 #[.slice a n c, .agg #[.int .i64 q.X, .int .i64 q.Y], .agg #[.int .i64 r.X, .int .i64 r.Y]] w (TurnSays ((turned ps q r).all near) w (turned ps q r)) := by
  obtain ⟨l1, l2, l3⟩ := shape_len hs
  have hl := h.1
  have b0 : Below w.heap.size w ((w.alloc (.cells #[.int .i64 q.X, .int .i64 q.Y] 37)).alloc (.cells #[.int .i64 r.X, .int .i64 r.Y] 37)) := ((Below.refl _ _).alloc (Nat.le_refl _) _).alloc (by simp) _
  have C := Lib.hid (shape_any _ a n c ps (h.below b0) (by omega))
  rw [hs] at C
  have HB0 := Lib.hid (show Below w.heap.size w ((w.alloc (.cells #[.int .i64 q.X, .int .i64 q.Y] 37)).alloc (.cells #[.int .i64 r.X, .int .i64 r.Y] 37)) ∧ w.heap.size + 2 ≤ ((w.alloc (.cells #[.int .i64 q.X, .int .i64 q.Y] 37)).alloc (.cells #[.int .i64 r.X, .int .i64 r.Y] 37)).heap.size from ⟨b0, by simp⟩)
  have BX := Lib.hid (boxes_new w q r)
  have HQ := Lib.hid (And.intro hq hr)
  have HP := Lib.hid h
  have HN := Lib.hid l3
  have hn1 : 1 ≤ n := by omega
  have hn2 : n ≤ 256 := by omega
  have HL := Lib.hid hl
  have hmk := run_make_points n hn2
  clear h hs b0 hq hr l1 l2 l3 hl
  go_enter Try.func18, Try.ntmps18
  go_wp2_with fail
  refine C.out.mono ?_
  rintro e w1 ⟨rfl, hb⟩
  have HB := Lib.hid (show Below w.heap.size w w1 ∧ w.heap.size + 2 ≤ w1.heap.size from ⟨below_more HB0.out.1 hb (Nat.le_refl _), Nat.le_trans HB0.out.2 hb.size⟩)
  have BX1 := Lib.hid (BX.out.below hb)
  obtain ⟨x0, x1, x2, x3⟩ := BX1.out
  clear hb C HB0 BX
  have fq : Fits q := by have := near_iff.1 HQ.out.1; exact ⟨by omega, by omega⟩
  have fr : Fits r := by have := near_iff.1 HQ.out.2; exact ⟨by omega, by omega⟩
  have CP := Lib.hid (points_any (w1.alloc (.cells #[.int .i64 q.X, .int .i64 q.Y, .int .i64 r.X, .int .i64 r.Y] 37)) (some ⟨w1.heap.size, 0, none⟩) 2 2 [q, r] (two_points w1 q r fq fr) (by omega))
  have e1 : [q, r].all near = true := by have := HQ.out; simpa using this
  rw [e1] at CP
  clear e1 fq fr
  go_wp2_with fail
  refine CP.out.mono ?_
  rintro e w2 ⟨rfl, hb⟩
  have hb12 : Below w1.heap.size w1 w2 := below_more ((Below.refl _ _).alloc (Nat.le_refl _) (.cells #[.int .i64 q.X, .int .i64 q.Y, .int .i64 r.X, .int .i64 r.Y] 37)) hb (Nat.le_refl _)
  have HB2 := Lib.hid (show Below w.heap.size w w2 ∧ w.heap.size + 2 ≤ w2.heap.size from ⟨below_more HB.out.1 hb12 (Nat.le_refl _), Nat.le_trans HB.out.2 hb12.size⟩)
  have BX2 := Lib.hid (BX1.out.below hb12)
  clear hb CP HB x0 x1 x2 x3 hb12 BX1
  have b23 : Below w2.heap.size w2 (w2.alloc (.cells (madeCells #[.int .i64 0, .int .i64 0] (n * 2)) 37)) := (Below.refl _ _).alloc (Nat.le_refl _) _
  have ST := Lib.hid (show Held w w2.heap.size n 0 ((turned ps q r).map pv) (w2.alloc (.cells (madeCells #[.int .i64 0, .int .i64 0] (n * 2)) 37)) ∧ Boxes (w2.alloc (.cells (madeCells #[.int .i64 0, .int .i64 0] (n * 2)) 37)) w.heap.size q r from
    ⟨⟨row2_start w2 #[.int .i64 0, .int .i64 0] n 37 _, below_more HB2.out.1 b23 (Nat.le_refl _), HB2.out.2⟩, BX2.out.below b23⟩)
  clear b23 BX2
  go_wp2_with fail
  generalize w2.alloc (.cells (madeCells #[.int .i64 0, .int .i64 0] (n * 2)) 37) = w3 at *
  clear hmk
  go_loopw [26] (fun cnt wr => ∃ i : Nat, i ≤ n ∧ cnt = .int .i64 i ∧ Held w w2.heap.size n i ((turned ps q r).map pv) wr ∧ Boxes wr w.heap.size q r) (fun cnt _ => n - (intOf cnt).toNat)
  case atStart => exact ⟨0, Nat.zero_le _, rfl, ST.out.1, ST.out.2⟩
  case round =>
    clear ST
    obtain ⟨i, hi, rfl, hh, hx⟩ := hrel
    by_cases hlt : i < n
    · obtain ⟨b, off, p, rfl, hp, hfit, c0, c1⟩ := (HP.out.below hh.2.1).at hlt
      have np := List.all_eq_true.1 HN.out p (List.mem_of_getElem? hp)
      obtain ⟨u, v, x, y, e1, e2, e3, e4⟩ := turn_bits np HQ.out.1 HQ.out.2
      have hvi : ((turned ps q r).map pv)[i]? = some (Value.int .i64 (timesZ p q r).X, Value.int .i64 (timesZ p q r).Y) := by
        unfold turned
        rw [List.getElem?_map, List.getElem?_map, hp]
        rfl
      have HV := Lib.hid hvi
      have ba : Below wr.heap.size wr (wr.alloc (.cells #[.int .i64 p.X, .int .i64 p.Y] 37)) := (Below.refl _ _).alloc (Nat.le_refl _) _
      have o1 := one_pt wr p 37
      have S0 := Lib.hid (show Six w.heap.size wr.heap.size p q r (wr.alloc (.cells #[.int .i64 p.X, .int .i64 p.Y] 37)) ∧ Held w w2.heap.size n i ((turned ps q r).map pv) (wr.alloc (.cells #[.int .i64 p.X, .int .i64 p.Y] 37)) ∧ wr.heap.size ≠ w2.heap.size from
        ⟨⟨o1.1, o1.2, hx.below ba⟩, hh.below ba, by have := hh.1.lt; omega⟩)
      have g1 : ∀ (t : TypeId) (w : World), (binOp .mul t (.complex .f64 (fb p.X) (fb p.Y)) (.complex .f64 (fb q.X) (fb q.Y))).run Try.prog w = .ok (.complex .f64 u v) w := fun t w => run_complex_mul w t _ _ _ _ _ _ e1
      have g2 : ∀ (t : TypeId) (w : World), (binOp .add t (.complex .f64 u v) (.complex .f64 (fb r.X) (fb r.Y))).run Try.prog w = .ok (.complex .f64 x y) w := fun t w => run_complex_sum w .add (.inl rfl) t _ _ _ _ _ _ _ e2
      have CPT := Lib.hid (fun w => point_any w x y _ _ e3 e4)
      clear hh hx hp hfit np e1 e2 e3 e4 hvi ba o1
      go_wp2_with fail
      generalize wr.alloc (.cells #[.int .i64 p.X, .int .i64 p.Y] 37) = w5 at *
      generalize wr.heap.size = PB at *
      obtain ⟨⟨s0, s1, s2, s3, s4, s5⟩, s6, hPB⟩ := S0.out
      have N2 : w.heap.size ≠ w2.heap.size := by have := s6.2.2; omega
      have N3 : w.heap.size + 1 ≠ w2.heap.size := by have := s6.2.2; omega
      have NN := Lib.hid (And.intro hPB (And.intro N2 N3))
      have OW := Lib.hid s6
      have OD := Lib.hid s6.drew
      have C31 : ∀ (w' : World) (X Y : Int), (w'.cell? ⟨PB, 0, none⟩ = some (.int .i64 p.X) ∧ w'.cell? ⟨PB, 1, none⟩ = some (.int .i64 p.Y) ∧ w'.cell? ⟨w.heap.size, 0, none⟩ = some (.int .i64 q.X) ∧ w'.cell? ⟨w.heap.size, 1, none⟩ = some (.int .i64 q.Y) ∧ w'.cell? ⟨w.heap.size + 1, 0, none⟩ = some (.int .i64 r.X) ∧ w'.cell? ⟨w.heap.size + 1, 1, none⟩ = some (.int .i64 r.Y) ∧ Held w w2.heap.size n i ((turned ps q r).map pv) w') → Calls Try.prog 31 #[.agg #[.int .i64 X, .int .i64 Y]] w' fun e w'' => e = .returned (.complex .f64 (fb X) (fb Y)) ∧ w''.cell? ⟨PB, 0, none⟩ = some (.int .i64 p.X) ∧ w''.cell? ⟨PB, 1, none⟩ = some (.int .i64 p.Y) ∧ w''.cell? ⟨w.heap.size, 0, none⟩ = some (.int .i64 q.X) ∧ w''.cell? ⟨w.heap.size, 1, none⟩ = some (.int .i64 q.Y) ∧ w''.cell? ⟨w.heap.size + 1, 0, none⟩ = some (.int .i64 r.X) ∧ w''.cell? ⟨w.heap.size + 1, 1, none⟩ = some (.int .i64 r.Y) ∧ Held w w2.heap.size n i ((turned ps q r).map pv) w'' := by
        rintro w' X Y ⟨h0, h1, h2, h3, h4, h5, h6⟩
        refine (number_any w' ⟨X, Y⟩).mono ?_
        rintro e w'' ⟨rfl, k⟩
        have b : Below w'.heap.size w' w'' := by rw [k]; exact (Below.refl _ _).alloc (Nat.le_refl _) _
        exact ⟨rfl, cell_keep h0 b, cell_keep h1 b, cell_keep h2 b, cell_keep h3 b, cell_keep h4 b, cell_keep h5 b, h6.below b⟩
      have C30 : ∀ w' : World, (w'.cell? ⟨PB, 0, none⟩ = some (.int .i64 p.X) ∧ w'.cell? ⟨PB, 1, none⟩ = some (.int .i64 p.Y) ∧ w'.cell? ⟨w.heap.size, 0, none⟩ = some (.int .i64 q.X) ∧ w'.cell? ⟨w.heap.size, 1, none⟩ = some (.int .i64 q.Y) ∧ w'.cell? ⟨w.heap.size + 1, 0, none⟩ = some (.int .i64 r.X) ∧ w'.cell? ⟨w.heap.size + 1, 1, none⟩ = some (.int .i64 r.Y) ∧ Held w w2.heap.size n i ((turned ps q r).map pv) w') → Calls Try.prog 30 #[.complex .f64 x y] w' fun e w'' => e = .returned (.agg #[.int .i64 (timesZ p q r).X, .int .i64 (timesZ p q r).Y]) ∧ w''.cell? ⟨PB, 0, none⟩ = some (.int .i64 p.X) ∧ w''.cell? ⟨PB, 1, none⟩ = some (.int .i64 p.Y) ∧ w''.cell? ⟨w.heap.size, 0, none⟩ = some (.int .i64 q.X) ∧ w''.cell? ⟨w.heap.size, 1, none⟩ = some (.int .i64 q.Y) ∧ w''.cell? ⟨w.heap.size + 1, 0, none⟩ = some (.int .i64 r.X) ∧ w''.cell? ⟨w.heap.size + 1, 1, none⟩ = some (.int .i64 r.Y) ∧ Held w w2.heap.size n i ((turned ps q r).map pv) w'' := by
        rintro w' ⟨h0, h1, h2, h3, h4, h5, h6⟩
        refine (CPT.out w').mono ?_
        rintro e w'' ⟨rfl, b⟩
        exact ⟨rfl, cell_keep h0 b, cell_keep h1 b, cell_keep h2 b, cell_keep h3 b, cell_keep h4 b, cell_keep h5 b, h6.below b⟩
      have C31 := Lib.hid C31
      have C30 := Lib.hid C30
      clear S0 CPT s6 hPB N2 N3
      generalize timesZ p q r = T at *
      go_region_held3 (fun w' => w'.cell? ⟨PB, 0, none⟩ = some (.int .i64 p.X) ∧ w'.cell? ⟨PB, 1, none⟩ = some (.int .i64 p.Y) ∧ w'.cell? ⟨w.heap.size, 0, none⟩ = some (.int .i64 q.X) ∧ w'.cell? ⟨w.heap.size, 1, none⟩ = some (.int .i64 q.Y) ∧ w'.cell? ⟨w.heap.size + 1, 0, none⟩ = some (.int .i64 r.X) ∧ w'.cell? ⟨w.heap.size + 1, 1, none⟩ = some (.int .i64 r.Y) ∧ Held w w2.heap.size n i ((turned ps q r).map pv) w') (first | exact ⟨s0, s1, s2, s3, s4, s5, OW.out⟩ | exact ⟨s0, s1, s2, s3, s4, s5, OD.out⟩ | (refine ⟨‹_›, ‹_›, ‹_›, ‹_›, ‹_›, ‹_›, ‹_›⟩) | (refine ⟨cell_set2 ‹_› NN.out.1, cell_set2 ‹_› NN.out.1, cell_set2 ‹_› NN.out.2.1, cell_set2 ‹_› NN.out.2.1, cell_set2 ‹_› NN.out.2.2, cell_set2 ‹_› NN.out.2.2, Held.store ‹_› _ _⟩) | go_keep) (first | (go_at_call 31; refine (C31.out _ _ _ ⟨‹_›, ‹_›, ‹_›, ‹_›, ‹_›, ‹_›, ‹_›⟩).mono ?_; rintro e w' ⟨rfl, k0, k1, k2, k3, k4, k5, k6⟩) | (go_at_call 30; refine (C30.out _ ⟨‹_›, ‹_›, ‹_›, ‹_›, ‹_›, ‹_›, ‹_›⟩).mono ?_; rintro e w' ⟨rfl, k0, k1, k2, k3, k4, k5, k6⟩; obtain ⟨z0, z1, z2⟩ := k6.1.spot (k := i * 2) (by omega); obtain ⟨y0, y1, y2⟩ := k6.1.spot (k := i * 2 + 1) (by omega)))
      rename_i hHeld
      obtain ⟨_, _, t2, t3, t4, t5, t6⟩ := hHeld
      have Y := Lib.hid (show Held w w2.heap.size n (i + 1) ((turned ps q r).map pv) ((w'.setCell ⟨w2.heap.size, i * 2, none⟩ (.int .i64 T.X)).setCell ⟨w2.heap.size, i * 2 + 1, none⟩ (.int .i64 T.Y)) ∧ Boxes ((w'.setCell ⟨w2.heap.size, i * 2, none⟩ (.int .i64 T.X)).setCell ⟨w2.heap.size, i * 2 + 1, none⟩ (.int .i64 T.Y)) w.heap.size q r from
        ⟨⟨k6.1.put hlt HV.out, t6.2⟩, t2, t3, t4, t5⟩)
      generalize (w'.setCell ⟨w2.heap.size, i * 2, none⟩ (.int .i64 T.X)).setCell ⟨w2.heap.size, i * 2 + 1, none⟩ (.int .i64 T.Y) = w6 at *
      clear t2 t3 t4 t5 t6 k0 k1 k2 k3 k4 k5 k6 z0 z1 z2 y0 y1 y2 c0 c1 s0 s1 s2 s3 s4 s5 g1 g2 OW OD C31 C30
      go_wp2_with fail
      go_roundw
      case rel => exact ⟨i + 1, hlt, by go_num, Y.out.1, Y.out.2⟩
      case measure => simp [intOf]; omega
    · obtain rfl : i = n := by omega
      have htl : (turned ps q r).length = i := by unfold turned; rw [List.length_map, HL.out]
      have hft : ∀ t ∈ turned ps q r, Fits t := by
        intro t ht
        obtain ⟨p, hp, rfl⟩ := List.mem_map.1 ht
        have k := times_fits (List.all_eq_true.1 HN.out p hp) HQ.out.1 HQ.out.2
        have e : (2 : Nat) ^ 42 = 4398046511104 := by decide
        exact ⟨by omega, by omega⟩
      have hpt := hh.1.pts htl hft
      have CT := Lib.hid (points_any wr (some ⟨w2.heap.size, 0, none⟩) i i (turned ps q r) hpt (by omega))
      have X := Lib.hid (And.intro hpt hh)
      have TL := Lib.hid htl
      clear hh hx htl hft hpt
      go_wp2_with fail
      refine CT.out.mono ?_
      rintro e w7 ⟨rfl, hb⟩
      have Z := Lib.hid (show Pts w7 (some ⟨w2.heap.size, 0, none⟩) i (turned ps q r) ∧ Held w w2.heap.size i i ((turned ps q r).map pv) w7 from ⟨X.out.1.below hb, X.out.2.below hb⟩)
      clear hb CT X
      cases hal : (turned ps q r).all near with
      | true =>
        have hal := Lib.hid hal
        have R := Lib.hid (show ToldT w (turned ps q r) (.returned (.tuple #[.slice (some ⟨w2.heap.size, 0, none⟩) i i, .int .i64 0])) w7 from ⟨w2.heap.size, by rw [TL.out], by rw [TL.out]; exact Z.out.1, by have := Z.out.2.2.2; omega, Z.out.2.2.1⟩)
        clear Z
        go_wp2_with fail
        go_ret2
        rw [hal.out]
        exact turn_ok R.out
      | false =>
        have hal := Lib.hid hal
        have R := Lib.hid Z.out.2.2.1
        clear Z
        go_wp2_with fail
        go_ret2
        rw [hal.out]
        exact turn_bad ⟨rfl, R.out⟩
theorem turn_any (w : World) (a : Option Addr) (n c : Nat) (ps : List Pt) (q r : Pt) (h : Pts w a n ps) (hn : n ≤ 33554432) (hq : Fits q) (hr : Fits r) :
    Calls Try.prog 18 #[.slice a n c, .agg #[.int .i64 q.X, .int .i64 q.Y], .agg #[.int .i64 r.X, .int .i64 r.Y]] w (TurnSays (shape ps && (near q && near r) && (turned ps q r).all near) w (turned ps q r)) := by
  cases hs : shape ps with
  | false =>
    rw [Bool.false_and, Bool.false_and]
    exact (turn_no1 w a n c ps q r h hn hs).mono fun e w' k => turn_bad k
  | true =>
    rw [Bool.true_and]
    cases hqr : (near q && near r) with
    | false =>
      rw [Bool.false_and]
      exact (turn_no2 w a n c ps q r h hn hs hq hr hqr).mono fun e w' k => turn_bad k
    | true =>
      rw [Bool.true_and]
      rw [Bool.and_eq_true] at hqr
      exact turn_loop w a n c ps q r h hs hqr.1 hqr.2
end Go.Proofs.Ytboocllckolmgaa
