/- Within. -/
import Derived.Test.YtboocllckolmgaaE
namespace Go.Proofs.Ytboocllckolmgaa
open Go.RowKit
set_option linter.unusedVariables false

theorem cell_keep {w w' : World} {b o : Nat} {v : Value} (h : w.cell? ⟨b, o, none⟩ = some v) (hb : Below w.heap.size w w') : w'.cell? ⟨b, o, none⟩ = some v :=
  (World.cell?_of_block (w := w) (hb.block b (World.block_lt_of_cell? w _ h))).trans h
/-- Does a pixel's ray meet a side? -/
def metB (q : Pt) (s : Pt × Pt) : Bool := decide (0 < reachZ s.1 s.2 q)
/-- How many sides it meets. -/
def hits (ss : List (Pt × Pt)) (q : Pt) : Nat := ss.countP (metB q)
def insideB (ps : List Pt) (q : Pt) : Bool := decide (hits (sidesL ps) q % 2 = 1)
theorem hits_more {ss : List (Pt × Pt)} {i : Nat} {s : Pt × Pt} {q : Pt} (h : ss[i]? = some s) : hits (ss.take (i + 1)) q = hits (ss.take i) q + (if metB q s then 1 else 0) := by
  unfold hits
  rw [take_more h, List.countP_append, List.countP_singleton]
/-- A bool and an error, and the old memory as it was. -/
def SaysBE (b : Bool) (c : Int) (w : World) (e : Ending) (w' : World) : Prop := e = .returned (.tuple #[.bool b, .int .i64 c]) ∧ Below w.heap.size w w'
theorem one_point (w : World) (q : Pt) (hq : Fits q) : Pts (w.alloc (.cells #[.int .i64 q.X, .int .i64 q.Y] 37)) (some ⟨w.heap.size, 0, none⟩) 1 [q] := by
  refine ⟨rfl, fun p hp => by rw [List.mem_singleton] at hp; rw [hp]; exact hq, fun _ => ⟨_, _, rfl, fun i p hp => ?_⟩⟩
  cases i with
  | zero =>
    simp only [List.getElem?_cons_zero, Option.some.injEq] at hp
    subst hp
    exact ⟨by rw [World.cell?_alloc_mark]; rfl, by rw [World.cell?_alloc_mark]; rfl⟩
  | succ i => simp at hp

set_option maxHeartbeats 1600000 in
theorem within_no (w : World) (a : Option Addr) (n c : Nat) (ps : List Pt) (q : Pt) (h : Pts w a n ps) (hn : n ≤ 33554432) (hq : Fits q) (hs : (shape ps && near q) = false) : Calls Try.prog 12 #[.slice a n c, .int .i64 q.X, .int .i64 q.Y] w (SaysBE false 31 w) := by
  have hb0 : Below w.heap.size w (w.alloc (.cells #[.int .i64 q.X, .int .i64 q.Y] 37)) := (Below.refl _ _).alloc (Nat.le_refl _) _
  have C := Lib.hid (shape_any (w.alloc (.cells #[.int .i64 q.X, .int .i64 q.Y] 37)) a n c ps (h.below hb0) hn)
  obtain ⟨x0, x1⟩ := (one_point w q hq).2.2 (by omega)
  obtain ⟨off, hx, hc⟩ := x1
  cases hx
  obtain ⟨c0, c1⟩ := hc 0 q rfl
  rw [Nat.zero_mul, Nat.add_zero] at c0 c1
  have HB0 := Lib.hid hb0
  have HS := Lib.hid hs
  have HQ := Lib.hid hq
  clear h hs hb0 hc
  generalize hsh : shape ps = sh at *
  cases sh with
  | false =>
    go_enter Try.func12, Try.ntmps12
    go_wp2_with fail
    refine C.out.mono ?_
    rintro e w1 ⟨rfl, hb⟩
    have HB := Lib.hid (below_more HB0.out hb (Nat.le_refl _))
    clear hb C HB0 c0 c1 hsh
    go_wp2_with fail
    go_ret2
    exact ⟨rfl, HB.out⟩
  | true =>
    go_enter Try.func12, Try.ntmps12
    go_wp2_with fail
    refine C.out.mono ?_
    rintro e w1 ⟨rfl, hb⟩
    have d0 : w1.cell? ⟨w.heap.size, 0, none⟩ = some (.int .i64 q.X) := cell_keep c0 hb
    have d1 : w1.cell? ⟨w.heap.size, 1, none⟩ = some (.int .i64 q.Y) := cell_keep c1 hb
    have HB := Lib.hid (below_more HB0.out hb (Nat.le_refl _))
    have CP := Lib.hid (points_any (w1.alloc (.cells #[.int .i64 q.X, .int .i64 q.Y] 37)) (some ⟨w1.heap.size, 0, none⟩) 1 1 [q] (one_point w1 q HQ.out) (by omega))
    have e1 : [q].all near = false := by have := HS.out; simpa using this
    rw [e1] at CP
    clear hb C HB0 c0 c1 hsh e1
    go_wp2_with fail
    refine CP.out.mono ?_
    rintro e w2 ⟨rfl, hb⟩
    have HB2 := Lib.hid (below_more (HB.out.alloc HB.out.size (.cells #[.int .i64 q.X, .int .i64 q.Y] 37)) hb (Nat.le_refl _))
    clear hb CP HB d0 d1
    go_wp2_with fail
    go_ret2
    exact ⟨rfl, HB2.out⟩

set_option maxHeartbeats 1600000 in
theorem within_yes (w : World) (a : Option Addr) (n c : Nat) (ps : List Pt) (q : Pt) (h : Pts w a n ps) (hq : near q = true) (hs : shape ps = true) : Calls Try.prog 12 #[.slice a n c, .int .i64 q.X, .int .i64 q.Y] w (SaysBE (insideB ps q) 0 w) := by
  obtain ⟨l1, l2, l3⟩ := shape_len hs
  have hfit : Fits q := by have := near_iff.1 hq; exact ⟨by omega, by omega⟩
  have hl := h.1
  have hb0 : Below w.heap.size w (w.alloc (.cells #[.int .i64 q.X, .int .i64 q.Y] 37)) := (Below.refl _ _).alloc (Nat.le_refl _) _
  have C := Lib.hid (shape_any (w.alloc (.cells #[.int .i64 q.X, .int .i64 q.Y] 37)) a n c ps (h.below hb0) (by omega))
  rw [hs] at C
  obtain ⟨x0, x1⟩ := (one_point w q hfit).2.2 (by omega)
  obtain ⟨off, hx, hc⟩ := x1
  cases hx
  obtain ⟨c0, c1⟩ := hc 0 q rfl
  rw [Nat.zero_mul, Nat.add_zero] at c0 c1
  have HB0 := Lib.hid hb0
  have HP := Lib.hid h
  have HN := Lib.hid l3
  have hn1 : 1 ≤ n := by omega
  have hn2 : n ≤ 256 := by omega
  have HL := Lib.hid hl
  have HQ := Lib.hid (And.intro hq hfit)
  clear h hs hb0 hc l1 l2 l3 hl hq hfit
  go_enter Try.func12, Try.ntmps12
  go_wp2_with fail
  refine C.out.mono ?_
  rintro e w1 ⟨rfl, hb⟩
  have d0 : w1.cell? ⟨w.heap.size, 0, none⟩ = some (.int .i64 q.X) := cell_keep c0 hb
  have d1 : w1.cell? ⟨w.heap.size, 1, none⟩ = some (.int .i64 q.Y) := cell_keep c1 hb
  have HB := Lib.hid (below_more HB0.out hb (Nat.le_refl _))
  have CP := Lib.hid (points_any (w1.alloc (.cells #[.int .i64 q.X, .int .i64 q.Y] 37)) (some ⟨w1.heap.size, 0, none⟩) 1 1 [q] (one_point w1 q HQ.out.2) (by omega))
  have e1 : [q].all near = true := by have := HQ.out.1; simpa using this
  rw [e1] at CP
  clear hb C HB0 c0 c1 e1
  have D := Lib.hid (And.intro d0 d1)
  go_wp2_with fail
  refine CP.out.mono ?_
  rintro e w2 ⟨rfl, hb⟩
  have hb12 : Below w1.heap.size w1 w2 := below_more ((Below.refl _ _).alloc (Nat.le_refl _) _) hb (Nat.le_refl _)
  have HB2 := Lib.hid (below_more HB.out hb12 (Nat.le_refl _))
  have CS := Lib.hid (sides_any w2 a n c ps (HP.out.below HB2.out) hn1 hn2)
  have D2 := Lib.hid (show w2.cell? ⟨w.heap.size, 0, none⟩ = some (.int .i64 q.X) ∧ w2.cell? ⟨w.heap.size, 1, none⟩ = some (.int .i64 q.Y) from ⟨cell_keep d0 hb12, cell_keep d1 hb12⟩)
  clear hb CP HB d0 d1 D hb12
  go_wp2_with fail
  refine CS.out.mono ?_
  rintro e w3 ⟨g, he, hg, hrow, hb⟩
  rw [HL.out] at he hrow
  subst he
  have D3 := Lib.hid (show w3.cell? ⟨w.heap.size, 0, none⟩ = some (.int .i64 q.X) ∧ w3.cell? ⟨w.heap.size, 1, none⟩ = some (.int .i64 q.Y) from ⟨cell_keep D2.out.1 hb, cell_keep D2.out.2 hb⟩)
  have HB3 := Lib.hid (below_more HB2.out hb (Nat.le_refl _))
  have HR := Lib.hid hrow
  clear hb HB2 CS hrow D2
  go_wp2_with fail
  go_loopw [9, 27] (fun v cnt wr => ∃ (i m : Nat), i ≤ n ∧ m ≤ i ∧ cnt = .int .i64 i ∧ v = .int .i64 m ∧ m = hits ((sidesL ps).take i) q ∧ Below w3.heap.size w3 wr) (fun _ cnt _ => n - (intOf cnt).toNat)
  case atStart => exact ⟨0, 0, Nat.zero_le _, Nat.le_refl _, rfl, rfl, rfl, Below.refl _ _⟩
  case round =>
    obtain ⟨i, m, hi, hmi, rfl, rfl, hm, hb⟩ := hrel
    by_cases hlt : i < n
    · obtain ⟨s, hsi⟩ : ∃ s, (sidesL ps)[i]? = some s := ⟨_, List.getElem?_eq_getElem (by unfold sidesL; rw [chainL_length, HL.out]; exact hlt)⟩
      have hrw := HR.out.below hb
      obtain ⟨c0, c1⟩ := hrw.at (j := i) (v := sdv s) hlt (by rw [List.getElem?_map, hsi]; rfl)
      unfold sdv at c0 c1
      simp only at c0 c1
      obtain ⟨n1, n2⟩ := sides_near HN.out (by rw [HL.out]; omega) (List.mem_of_getElem? hsi)
      have d0 : wr.cell? ⟨w.heap.size, 0, none⟩ = some (.int .i64 q.X) := cell_keep D3.out.1 hb
      have d1 : wr.cell? ⟨w.heap.size, 1, none⟩ = some (.int .i64 q.Y) := cell_keep D3.out.2 hb
      have f0 : (wr.alloc (.cells #[.complex .f64 (fb s.1.X) (fb s.1.Y), .complex .f64 (fb s.2.X) (fb s.2.Y)] 57)).cell? ⟨w.heap.size, 0, none⟩ = some (.int .i64 q.X) := cell_keep d0 ((Below.refl _ _).alloc (Nat.le_refl _) _)
      have f1 : (wr.alloc (.cells #[.complex .f64 (fb s.1.X) (fb s.1.Y), .complex .f64 (fb s.2.X) (fb s.2.Y)] 57)).cell? ⟨w.heap.size, 1, none⟩ = some (.int .i64 q.Y) := cell_keep d1 ((Below.refl _ _).alloc (Nat.le_refl _) _)
      have CR := Lib.hid (reach_any (wr.alloc (.cells #[.complex .f64 (fb s.1.X) (fb s.1.Y), .complex .f64 (fb s.2.X) (fb s.2.Y)] 57)) s.1 s.2 q n1 n2 HQ.out.1)
      have hm2 := hits_more (q := q) hsi
      have hst := store_complex
      have hb1 : Below w3.heap.size w3 (wr.alloc (.cells #[.complex .f64 (fb s.1.X) (fb s.1.Y), .complex .f64 (fb s.2.X) (fb s.2.Y)] 57)) := hb.alloc hb.size _
      rw [← hm] at hm2
      unfold metB at hm2
      have HB5 := Lib.hid hb1
      clear hb hb1 hrw n1 n2 hsi hm d0 d1
      generalize fb s.1.X = p1 at *
      generalize fb s.1.Y = p2 at *
      generalize fb s.2.X = p3 at *
      generalize fb s.2.Y = p4 at *
      generalize reachZ s.1 s.2 q = R at *
      by_cases hr : 0 < R
      · have u : decide (0 < R) = true := by simpa using hr
        rw [u, if_pos rfl] at hm2
        have HM := Lib.hid hm2
        clear hm2 hr
        go_wp2_with fail
        refine CR.out.mono ?_
        rintro e w5 ⟨rfl, hb⟩
        have HB6 := Lib.hid (below_more HB5.out hb (Nat.le_refl _))
        clear hb CR HB5 c0 c1 f0 f1
        go_wp2_with fail
        go_roundw
        case rel => exact ⟨i + 1, m + 1, hlt, by omega, by go_num, by go_num, HM.out.symm, HB6.out⟩
        case measure => simp [intOf]; omega
      · have u : decide (0 < R) = false := by simpa using hr
        rw [u] at hm2
        have HM := Lib.hid hm2
        clear hm2 hr
        go_wp2_with fail
        refine CR.out.mono ?_
        rintro e w5 ⟨rfl, hb⟩
        have HB6 := Lib.hid (below_more HB5.out hb (Nat.le_refl _))
        clear hb CR HB5 c0 c1 f0 f1
        go_wp2_with fail
        go_roundw
        case rel => exact ⟨i + 1, m, hlt, by omega, by go_num, rfl, HM.out.symm, HB6.out⟩
        case measure => simp [intOf]; omega
    · obtain rfl : i = n := by omega
      rw [List.take_of_length_le (by unfold sidesL; rw [chainL_length, HL.out]; exact Nat.le_refl _)] at hm
      have X := Lib.hid (below_more HB3.out hb (Nat.le_refl _))
      have E := Lib.hid (show insideB ps q = decide (m % 2 = 1) by unfold insideB; rw [hm])
      clear hm hb
      rcases Nat.mod_two_eq_zero_or_one m with hr | hr
      · have k1 : ((m : Int).tmod 2) = 0 := by show ((m % 2 : Nat) : Int) = 0; omega
        rw [hr] at E
        have F := Lib.hid (show insideB ps q = false by rw [E.out]; rfl)
        clear hr E
        go_wp2_with fail
        go_ret2
        rw [F.out]
        exact ⟨rfl, X.out⟩
      · have k1 : ((m : Int).tmod 2) = 1 := by show ((m % 2 : Nat) : Int) = 1; omega
        rw [hr] at E
        have F := Lib.hid (show insideB ps q = true by rw [E.out]; rfl)
        clear hr E
        go_wp2_with fail
        go_ret2
        rw [F.out]
        exact ⟨rfl, X.out⟩
theorem within_any (w : World) (a : Option Addr) (n c : Nat) (ps : List Pt) (q : Pt) (h : Pts w a n ps) (hn : n ≤ 33554432) (hq : Fits q) : Calls Try.prog 12 #[.slice a n c, .int .i64 q.X, .int .i64 q.Y] w (SaysBE (shape ps && near q && insideB ps q) (if shape ps && near q then 0 else 31) w) := by
  cases hs : (shape ps && near q) with
  | true =>
    rw [Bool.and_eq_true] at hs
    exact within_yes w a n c ps q h hs.2 hs.1
  | false => exact within_no w a n c ps q h hn hq hs
end Go.Proofs.Ytboocllckolmgaa
