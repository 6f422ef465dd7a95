/- AffineInside: the walk. (printed by genLI.py) -/
import Derived.Test.YtfcndldobjpbnaaLIA
import Derived.Test.YtfcndldobjpbnaaLSA
import Derived.Test.YtfcndldobjpbnaaZ
import Derived.Test.YtfcndldobjpbnaaI
import Derived.Deep.CutRange
namespace Go.Proofs.Ytfcndldobjpbnaa
open Go.RowKit Go.Maps
set_option linter.unusedVariables false

/-- A map that is turned, quarter by quarter. -/
structure Turning (s : Bool) (a b c d x y : Int) : Prop where
  ok : Af.FamOk a b c d x y
  unit : s = true → Af.Unit1 a b ∧ Af.Unit1 c d
theorem Turning.first {s : Bool} {sl x y : Int} (h1 : Af.Few sl) (hx : Af.Near x) (hy : Af.Near y) (hs : s = true → sl = 0) : Turning s 1 sl 0 1 x y := by
  refine ⟨⟨by omega, by unfold Af.Few; omega, h1, by unfold Af.Few; omega, by unfold Af.Few; omega, hx, hy⟩, fun h => ?_⟩
  have := hs h
  unfold Af.Unit1
  omega
theorem Turning.next {s : Bool} {a b c d x y : Int} (h : Turning s a b c d x y) : Turning s b (-a) d (-c) x y :=
  ⟨(Af.fam_times h.ok).1, fun hs => ⟨Af.unit_turn (h.unit hs).1, Af.unit_turn (h.unit hs).2⟩⟩
/-- A map that came of quarter turns. -/
def Turned (s : Bool) (x y : Int) (m : Af.M) : Prop := ∃ a b c d, Turning s a b c d x y ∧ m = Af.fam a b c d x y
theorem Turned.next {s : Bool} {x y : Int} {m : Af.M} (h : Turned s x y m) : ∃ q, Turned s x y q ∧ Af.timesE m ⟨0, -65536, 65536, 0, 0, 0⟩ = (q, 0) := by
  obtain ⟨a, b, c, d, h, rfl⟩ := h
  exact ⟨_, ⟨_, _, _, _, h.next, rfl⟩, (Af.fam_times h.ok).2⟩
theorem lo_far {a b c d n : Int} (ha : -n ≤ a ∧ a ≤ n) (hb : -n ≤ b ∧ b ≤ n) (hc : -n ≤ c ∧ c ≤ n) (hd : -n ≤ d ∧ d ≤ n) : (-n ≤ Af.lo a b c d ∧ Af.lo a b c d ≤ n) ∧ (-n ≤ Af.hi a b c d ∧ Af.hi a b c d ≤ n) := by
  unfold Af.lo Af.hi
  omega
/-- What the box of a picture tells of what is seen. -/
structure Holds (W H : Int) (zs : List Int) (b : Af.M) (s : Bool) (bx by' bw bh : Int) : Prop where
  box : ∀ X Y, Af.seen W H zs b s X Y ≠ 0 → (bx - 1 ≤ X ∧ X ≤ bx + bw) ∧ (by' - 1 ≤ Y ∧ Y ≤ by' + bh)
  far : (-4398046511104 ≤ bx ∧ bx ≤ 4398046511104) ∧ (-4398046511104 ≤ by' ∧ by' ≤ 4398046511104) ∧ (-4398046511104 ≤ bw ∧ bw ≤ 4398046511104) ∧ (-4398046511104 ≤ bh ∧ bh ≤ 4398046511104)
theorem Turned.told {s : Bool} {x y : Int} {m : Af.M} (h : Turned s x y m) {W H : Int} {zs : List Int} (hW : 0 ≤ W ∧ W ≤ 60) (hH : 0 ≤ H ∧ H ≤ 60) : ∃ (b : Af.M) (bx by' bw bh : Int), Af.backE m = (b, 0) ∧ Holds W H zs b s bx by' bw bh ∧
    ∀ w, Calls Try.prog 20 #[.agg #[.int .i64 m.a, .int .i64 m.b, .int .i64 m.c, .int .i64 m.d, .int .i64 m.e, .int .i64 m.f], .int .i64 0, .int .i64 0, .int .i64 W, .int .i64 H] w (Five bx by' bw bh 0 w) := by
  obtain ⟨a, b, c, d, h, rfl⟩ := h
  have hm := Af.fam_ok h.ok
  refine ⟨_, Af.bxU (Af.fam a b c d x y) W H / 65536, Af.bxV (Af.fam a b c d x y) W H / 65536, -(-Af.byU (Af.fam a b c d x y) W H / 65536) - Af.bxU (Af.fam a b c d x y) W H / 65536, -(-Af.byV (Af.fam a b c d x y) W H / 65536) - Af.bxV (Af.fam a b c d x y) W H / 65536, Af.fam_back h.ok, ⟨fun X Y hv => Af.inside hW.1 hH.1 h.ok s h.unit hv, ?_⟩, fun w => box_good _ 0 0 W H w ⟨hm, ⟨by omega, by omega⟩, ⟨by omega, by omega⟩, ⟨by omega, by omega⟩, by omega, by omega⟩⟩
  have z0 : Af.Up (0 : Int) 65536 := ⟨by omega, by omega⟩
  have zW : Af.Up (0 + W) 65536 := ⟨by omega, by omega⟩
  have zH : Af.Up (0 + H) 65536 := ⟨by omega, by omega⟩
  have p0 := place_up hm z0 z0
  have p1 := place_up hm zW z0
  have p2 := place_up hm z0 zH
  have p3 := place_up hm zW zH
  have l1 := lo_far p0.1 p1.1 p2.1 p3.1
  have l2 := lo_far p0.2 p1.2 p2.2 p3.2
  unfold Af.bxU Af.bxV Af.byU Af.byV
  omega
/-- The picture that came in (block B), and the map (block A). -/
structure Under (w : World) (B A : Nat) (W H : Int) (a : Option Addr) (n c : Nat) (m : Af.M) (w' : World) : Prop where
  pic : PicB w' B 44 W H a n c
  map : Six w' A 23 m
  keeps : Keeps none' w w'
  apart : w.heap.size ≤ A ∧ B ≠ A
theorem Under.later {w w1 w2 : World} {B A : Nat} {W H : Int} {a : Option Addr} {n c : Nat} {m : Af.M} (h : Under w B A W H a n c m w1) (k : Keeps none' w1 w2) : Under w B A W H a n c m w2 :=
  ⟨h.pic.later k, h.map.later k, h.keeps.next k, h.apart⟩
theorem Under.alloc {w w1 : World} {B A : Nat} {W H : Int} {a : Option Addr} {n c : Nat} {m : Af.M} (h : Under w B A W H a n c m w1) (o : Obj) : Under w B A W H a n c m (w1.alloc o) := h.later ((Keeps.refl _ _).alloc o)
theorem Under.all {w w1 : World} {B A : Nat} {W H : Int} {a : Option Addr} {n c : Nat} {m : Af.M} (h : Under w B A W H a n c m w1) (q : Af.M) :
    Under w B A W H a n c q ((((((w1.setCell ⟨A, 0, none⟩ (.int .i64 q.a)).setCell ⟨A, 1, none⟩ (.int .i64 q.b)).setCell ⟨A, 2, none⟩ (.int .i64 q.c)).setCell ⟨A, 3, none⟩ (.int .i64 q.d)).setCell ⟨A, 4, none⟩ (.int .i64 q.e)).setCell ⟨A, 5, none⟩ (.int .i64 q.f)) := by
  have ha := h.apart
  refine ⟨(((((h.pic.set ha.2 _).set ha.2 _).set ha.2 _).set ha.2 _).set ha.2 _).set ha.2 _, (((((h.map.s0 q.a).s1 q.b).s2 q.c).s3 q.d).s4 q.e).s5 q.f, ?_, ha⟩
  exact (((((h.keeps.setCell (fun e => by simp only at e; omega) _).setCell (fun e => by simp only at e; omega) _).setCell (fun e => by simp only at e; omega) _).setCell (fun e => by simp only at e; omega) _).setCell (fun e => by simp only at e; omega) _).setCell (fun e => by simp only at e; omega) _
set_option maxRecDepth 100000 in
set_option maxHeartbeats 6400000 in
theorem inside_start (W H : Int) (a : Option Addr) (n c : Nat) (zs : List Int) (qn sl x y : Int) (s : Bool) (w : World) (hz : Ints w a n zs) :
    Calls Try.prog 10 #[.agg #[.int .i64 W, .int .i64 H, .slice a n c], .int .i64 qn, .int .i64 sl, .int .i64 x, .int .i64 y, .bool s] w (Yes w) := by
  have P0 := Lib.hid (PicB.new w 44 W H a n c)
  have K0 := Lib.hid ((Keeps.refl none' w).alloc (.cells #[.int .i64 W, .int .i64 H, .slice a n c] 44))
  have Z := Lib.hid hz
  clear hz
  go_enter Try.func10, Try.ntmps10
  go_upto_region 1 with (fail)
  have B0 := Lib.hid (show w.heap.size ≤ w.heap.size from Nat.le_refl _)
  generalize w.alloc (.cells #[.int .i64 W, .int .i64 H, .slice a n c] 44) = w1 at *
  obtain ⟨B, hB⟩ : ∃ B, B = w.heap.size := ⟨_, rfl⟩
  rw [← hB] at P0
  rw [← hB]
  clear hB B0
  go_wp2_with fail
  refine (anchor_any _).mono ?_
  rintro e w2 ⟨rfl, hk⟩
  have P1 := Lib.hid (P0.out.later hk)
  have K1 := Lib.hid (K0.out.next hk)
  clear hk P0 K0
  have c0 := P1.out.c0
  have c1 := P1.out.c1
  have c2 := P1.out.c2
  by_cases g0 : (n : Int) > 600
  · have t_g0 : decide ((n : Int) > 600) = true := by simpa using g0
    clear g0
    go_wp2_with fail
    go_ret
    exact ⟨rfl, K1.out⟩
  have t_g0 : decide ((n : Int) > 600) = false := by simpa using g0
  by_cases g1 : qn < 0
  · have t_g1 : decide (qn < 0) = true := by simpa using g1
    clear g0 g1
    go_wp2_with fail
    go_ret
    exact ⟨rfl, K1.out⟩
  have t_g1 : decide (qn < 0) = false := by simpa using g1
  by_cases g2 : qn > 7
  · have t_g2 : decide (qn > 7) = true := by simpa using g2
    clear g0 g1 g2
    go_wp2_with fail
    go_ret
    exact ⟨rfl, K1.out⟩
  have t_g2 : decide (qn > 7) = false := by simpa using g2
  by_cases g3 : sl < -4
  · have t_g3 : decide (sl < -4) = true := by simpa using g3
    clear g0 g1 g2 g3
    go_wp2_with fail
    go_ret
    exact ⟨rfl, K1.out⟩
  have t_g3 : decide (sl < -4) = false := by simpa using g3
  by_cases g4 : sl > 4
  · have t_g4 : decide (sl > 4) = true := by simpa using g4
    clear g0 g1 g2 g3 g4
    go_wp2_with fail
    go_ret
    exact ⟨rfl, K1.out⟩
  have t_g4 : decide (sl > 4) = false := by simpa using g4
  have SL : ¬ (s = true ∧ sl ≠ 0) ∨ (s = true ∧ sl ≠ 0) := by
    rcases Decidable.em (s = true ∧ sl ≠ 0) with h | h
    · exact .inr h
    · exact .inl h
  rcases SL with SL | SL
  case inr =>
    obtain ⟨rfl, hs0⟩ := SL
    have t_s : (sl != 0) = true := by simp [hs0]
    clear g0 g1 g2 g3 g4 hs0
    go_wp2_with fail
    go_ret
    exact ⟨rfl, K1.out⟩
  obtain ⟨gs, hgs⟩ : ∃ gs : Bool, (sl != 0) = gs := ⟨_, rfl⟩
  have SG := Lib.hid (show s = true → sl = 0 from fun h => Decidable.byContradiction fun h2 => SL ⟨h, h2⟩)
  have HB := Lib.hid (show s = true → gs = false from fun h => by rw [← hgs]; simp [SG.out h])
  have HG := Lib.hid hgs
  clear SL
  have MEET : (s = true ∧ gs = false) ∨ s = false := by
    cases hs : s
    · exact .inr rfl
    · exact .inl ⟨rfl, HB.out hs⟩
  by_cases g5 : x < -1310720
  · have t_g5 : decide (x < -1310720) = true := by simpa using g5
    clear g0 g1 g2 g3 g4 g5
    rcases MEET with ⟨rfl, rfl⟩ | rfl
    · go_wp2_with fail
      go_ret
      exact ⟨rfl, K1.out⟩
    · go_wp2_with fail
      go_ret
      exact ⟨rfl, K1.out⟩
  have t_g5 : decide (x < -1310720) = false := by simpa using g5
  by_cases g6 : x > 1310720
  · have t_g6 : decide (x > 1310720) = true := by simpa using g6
    clear g0 g1 g2 g3 g4 g5 g6
    rcases MEET with ⟨rfl, rfl⟩ | rfl
    · go_wp2_with fail
      go_ret
      exact ⟨rfl, K1.out⟩
    · go_wp2_with fail
      go_ret
      exact ⟨rfl, K1.out⟩
  have t_g6 : decide (x > 1310720) = false := by simpa using g6
  by_cases g7 : y < -1310720
  · have t_g7 : decide (y < -1310720) = true := by simpa using g7
    clear g0 g1 g2 g3 g4 g5 g6 g7
    rcases MEET with ⟨rfl, rfl⟩ | rfl
    · go_wp2_with fail
      go_ret
      exact ⟨rfl, K1.out⟩
    · go_wp2_with fail
      go_ret
      exact ⟨rfl, K1.out⟩
  have t_g7 : decide (y < -1310720) = false := by simpa using g7
  by_cases g8 : y > 1310720
  · have t_g8 : decide (y > 1310720) = true := by simpa using g8
    clear g0 g1 g2 g3 g4 g5 g6 g7 g8
    rcases MEET with ⟨rfl, rfl⟩ | rfl
    · go_wp2_with fail
      go_ret
      exact ⟨rfl, K1.out⟩
    · go_wp2_with fail
      go_ret
      exact ⟨rfl, K1.out⟩
  have t_g8 : decide (y > 1310720) = false := by simpa using g8
  have G1 := Lib.hid (show n ≤ 600 ∧ (0 ≤ qn ∧ qn ≤ 7) ∧ Af.Few sl ∧ Af.Near x ∧ Af.Near y from ⟨by omega, ⟨by omega, by omega⟩, ⟨by omega, by omega⟩, ⟨by omega, by omega⟩, by omega, by omega⟩)
  clear g0 g1 g2 g3 g4 g5 g6 g7 g8
  have PL := Lib.hid (plain_any W H a n c w2)
  go_upto_region 3 with (fail)
  go_cut [84] from 26 to 83 (fun s84 w' => ∃ r, s84 = .bool r ∧ PicB w' B 44 W H a n c ∧ Keeps none' w w' ∧ (r = false → PicOk W H zs ∧ W ≤ 60 ∧ H ≤ 60))
  case first =>
    rcases MEET with ⟨rfl, rfl⟩ | rfl
    all_goals
      go_wp2_with fail
      refine PL.out.mono ?_
      rintro e w3 ⟨rfl, hk⟩
      have P2 := Lib.hid (P1.out.later hk)
      have K2 := Lib.hid (K1.out.next hk)
      clear hk P1 K1 c0 c1 c2 PL
      have c0 := P2.out.c0
      have c1 := P2.out.c1
      have c2 := P2.out.c2
      by_cases hp : PicOk W H zs
      case neg =>
        have RT := Lib.hid (docPic_any W H a n c zs w3 (Z.out.later K2.out) (by have := G1.out.1; omega) false (by simp [hp]))
        clear hp
        go_wp2_with fail
        refine RT.out.mono ?_
        rintro e w4 ⟨rfl, hk⟩
        have P3 := Lib.hid (P2.out.later hk)
        have K3 := Lib.hid (K2.out.next hk)
        clear hk P2 K2 c0 c1 c2 RT
        go_wp2_with fail
        go_meet
        case rel => exact ⟨true, rfl, P3.out, K3.out, fun h => by cases h⟩
      have RT := Lib.hid (docPic_any W H a n c zs w3 (Z.out.later K2.out) (by have := G1.out.1; omega) true (by simp [hp]))
      have HP := Lib.hid hp
      clear hp
      go_wp2_with fail
      refine RT.out.mono ?_
      rintro e w4 ⟨rfl, hk⟩
      have P3 := Lib.hid (P2.out.later hk)
      have K3 := Lib.hid (K2.out.next hk)
      clear hk P2 K2 c0 c1 c2 RT
      have c0 := P3.out.c0
      have c1 := P3.out.c1
      have c2 := P3.out.c2
      by_cases g1 : W > 60
      · have t1 : decide (W > 60) = true := by simpa using g1
        clear g1
        go_wp2_with fail
        go_meet
        case rel => exact ⟨true, rfl, P3.out, K3.out, fun h => by cases h⟩
      have t1 : decide (W > 60) = false := by simpa using g1
      by_cases g2 : H > 60
      · have t2 : decide (H > 60) = true := by simpa using g2
        clear g1 g2
        go_wp2_with fail
        go_meet
        case rel => exact ⟨true, rfl, P3.out, K3.out, fun h => by cases h⟩
      have t2 : decide (H > 60) = false := by simpa using g2
      have HS := Lib.hid (show W ≤ 60 ∧ H ≤ 60 from ⟨by omega, by omega⟩)
      clear g1 g2
      go_wp2_with fail
      go_meet
      case rel => exact ⟨false, rfl, P3.out, K3.out, fun _ => ⟨HP.out, HS.out.1, HS.out.2⟩⟩
  case rest =>
    obtain ⟨r, rfl, hP, hK, hr⟩ := hcut
    obtain ⟨w4, hw4⟩ : ∃ w4 : World, w4 = wc := ⟨_, rfl⟩
    rw [← hw4] at hP hK
    rw [← hw4]
    clear hw4
    have P3 := Lib.hid hP
    have K3 := Lib.hid hK
    clear hP hK MEET PL P1 K1 c0 c1 c2
    cases r
    case true =>
      clear hr
      go_wp2_with fail
      go_ret
      exact ⟨rfl, K3.out⟩
    have HP := Lib.hid (hr rfl).1
    have HS0 := Lib.hid (hr rfl).2
    clear hr
    have c0 := P3.out.c0
    have c1 := P3.out.c1
    have c2 := P3.out.c2
    have HS := Lib.hid (show (0 ≤ W ∧ W ≤ 60) ∧ (0 ≤ H ∧ H ≤ 60) from ⟨⟨HP.out.1.1, HS0.out.1⟩, HP.out.2.1.1, HS0.out.2⟩)
    have ws : IntKind.i64.wrap (sl * 65536) = sl * 65536 := by have := G1.out.2.2.1; unfold Af.Few at this; exact wrap_i64 _ (by omega) (by omega)
    have F0 : Turned s x y ⟨65536, sl * 65536, 0, 65536, x, y⟩ := ⟨1, sl, 0, 1, Turning.first G1.out.2.2.1 G1.out.2.2.2.1 G1.out.2.2.2.2 SG.out, by unfold Af.fam; rw [Int.mul_comm sl]; rfl⟩
    go_upto_region 5 with (fail)
    have U0 := Lib.hid (show Under w B w4.heap.size W H a n c ⟨65536, sl * 65536, 0, 65536, x, y⟩ (w4.alloc (.cells #[.int .i64 65536, .int .i64 (sl * 65536), .int .i64 0, .int .i64 65536, .int .i64 x, .int .i64 y] 23)) from ⟨P3.out.alloc _, Six.new w4 23 ⟨65536, sl * 65536, 0, 65536, x, y⟩, K3.out.alloc _, K3.out.size, by have := P3.out.lt; omega⟩)
    go_upto_region 6 with (fail)
    generalize w4.alloc (.cells #[.int .i64 65536, .int .i64 (sl * 65536), .int .i64 0, .int .i64 65536, .int .i64 x, .int .i64 y] 23) = w5 at *
    generalize w4.heap.size = A at *
    generalize (⟨65536, sl * 65536, 0, 65536, x, y⟩ : Af.M) = m0 at *
    have FF := Lib.hid F0
    clear F0 c0 c1 c2 P3 K3 ws SG HB HG
    go_wp2_with fail
    go_loopw [14] (fun cnt wi => ∃ k : Nat, (k : Int) ≤ qn ∧ cnt = .int .i64 k ∧ ∃ m, Turned s x y m ∧ Under w B A W H a n c m wi) (fun cnt _ => qn.toNat - (intOf cnt).toNat)
    case atStart => exact ⟨0, by have := G1.out.2.1.1; omega, rfl, m0, FF.out, U0.out⟩
    case round =>
      clear FF U0
      obtain ⟨k, hk, rfl, m, hT, hU⟩ := hrel
      have T := Lib.hid hT
      have U := Lib.hid hU
      clear hT hU
      have q7 := G1.out.2.1.2
      by_cases hlt : (k : Int) < qn
      · have t_k : decide ((k : Int) < qn) = true := by simpa using hlt
        obtain ⟨q, hq, he⟩ := T.out.next
        have TQ := Lib.hid hq
        have TM := Lib.hid (show ∀ w', Calls Try.prog 13 #[.agg #[.int .i64 m.a, .int .i64 m.b, .int .i64 m.c, .int .i64 m.d, .int .i64 m.e, .int .i64 m.f], .agg #[.int .i64 0, .int .i64 (-65536), .int .i64 65536, .int .i64 0, .int .i64 0, .int .i64 0]] w' (Told q 0 w') from fun w' => by
          have h1 := times_any m ⟨0, -65536, 65536, 0, 0, 0⟩ w'
          rw [he] at h1
          exact h1)
        clear hq he T
        have m0 := U.out.map.c0
        have m1 := U.out.map.c1
        have m2 := U.out.map.c2
        have m3 := U.out.map.c3
        have m4 := U.out.map.c4
        have m5 := U.out.map.c5
        go_wp2_with fail
        refine (TM.out _).mono ?_
        rintro e w7 ⟨rfl, hk7⟩
        have U7 := Lib.hid (U.out.later hk7)
        have U8 := Lib.hid (U7.out.all q)
        clear hk7 m0 m1 m2 m3 m4 m5 U TM
        have m0 := U7.out.map.c0
        have m1 := U7.out.map.c1
        have m2 := U7.out.map.c2
        have m3 := U7.out.map.c3
        have m4 := U7.out.map.c4
        have m5 := U7.out.map.c5
        have f0 := U7.out.map.fr (i := 0)
        have f1 := U7.out.map.fr (i := 1)
        have f2 := U7.out.map.fr (i := 2)
        have f3 := U7.out.map.fr (i := 3)
        have f4 := U7.out.map.fr (i := 4)
        have f5 := U7.out.map.fr (i := 5)
        go_wp2_with fail
        go_roundw
        case rel => exact ⟨k + 1, by omega, by go_num, q, TQ.out, U8.out⟩
        case measure => simp [intOf]; omega
      · have t_k : decide ((k : Int) < qn) = false := by simpa using hlt
        obtain ⟨bm, bx, by', bw, bh, hb, hh, hbx⟩ := T.out.told (zs := zs) HS.out.1 HS.out.2
        have HH := Lib.hid hh
        have BX := Lib.hid hbx
        obtain ⟨xs, hxs⟩ : ∃ xs, Af.seenTo W H zs bm s 40 1600 = xs := ⟨_, rfl⟩
        have SE := Lib.hid (show ∀ w', Ints w' a n zs → Calls Try.prog 22 #[.agg #[.int .i64 W, .int .i64 H, .slice a n c], .agg #[.int .i64 m.a, .int .i64 m.b, .int .i64 m.c, .int .i64 m.d, .int .i64 m.e, .int .i64 m.f], .int .i64 40, .int .i64 40, .bool s] w' (SeeFar 40 40 1600 xs w') from fun w' hz => by
          have h1 := seeP_far W H a n c zs m 40 40 s w' (by rw [hb]) (by decide) hz (by have := G1.out.1; omega) HP.out
          rw [hb] at h1
          have h2 : Af.seenTo W H zs bm s (40 : Int).toNat ((40 : Int).toNat * (40 : Int).toNat) = xs := hxs
          rw [h2] at h1
          exact h1)
        have XS := Lib.hid (show ∀ i v, xs[i]? = some v → Af.seen W H zs bm s ((i % 40 : Nat) : Int) ((i / 40 : Nat) : Int) = v from fun i v hv => by
          rw [← hxs] at hv
          unfold Af.seenTo at hv
          rw [List.getElem?_map] at hv
          cases h : (List.range 1600)[i]? with
          | none => rw [h] at hv; cases hv
          | some j =>
            rw [h] at hv
            have hj : j = i := by
              have h2 := (List.getElem?_eq_some_iff.1 h).2
              simpa using h2.symm
            subst hj
            exact Option.some.inj hv)
        clear hb hh hbx hxs T
        have m0 := U.out.map.c0
        have m1 := U.out.map.c1
        have m2 := U.out.map.c2
        have m3 := U.out.map.c3
        have m4 := U.out.map.c4
        have m5 := U.out.map.c5
        have p0 := U.out.pic.c0
        have p1 := U.out.pic.c1
        go_wp2_with fail
        refine (BX.out _).mono ?_
        rintro e w6 ⟨rfl, hk6⟩
        have V := Lib.hid (U.out.later hk6)
        clear hk6 U BX m0 m1 m2 m3 m4 m5 p0 p1
        have m0 := V.out.map.c0
        have m1 := V.out.map.c1
        have m2 := V.out.map.c2
        have m3 := V.out.map.c3
        have m4 := V.out.map.c4
        have m5 := V.out.map.c5
        have p0 := V.out.pic.c0
        have p1 := V.out.pic.c1
        have p2 := V.out.pic.c2
        go_wp2_with fail
        refine (SE.out _ (Z.out.later V.out.keeps)).mono ?_
        rintro e w7 ⟨aq, capq, rfl, hi, hk7, -⟩
        have KW := Lib.hid ((V.out.keeps.next hk7).alloc (.cells #[.int .i64 40, .int .i64 40, .slice aq 1600 capq] 44))
        have PQ := Lib.hid (PicB.new w7 44 40 40 aq 1600 capq)
        have IX := Lib.hid (hi.later ((Keeps.refl none' w7).alloc (.cells #[.int .i64 40, .int .i64 40, .slice aq 1600 capq] 44)))
        clear hi hk7 V SE m0 m1 m2 m3 m4 m5 p0 p1 p2
        go_upto_region 12 with (fail)
        generalize w7.alloc (.cells #[.int .i64 40, .int .i64 40, .slice aq 1600 capq] 44) = w8 at *
        generalize w7.heap.size = D at *
        have d2 := PQ.out.c2
        go_wp2_with fail
        go_loopw [135] (fun cnt wi => ∃ i : Nat, i ≤ 1600 ∧ cnt = .int .i64 i ∧ wi = w8) (fun cnt _ => 1600 - (intOf cnt).toNat)
        case atStart => exact ⟨0, by omega, rfl, rfl⟩
        case round =>
          obtain ⟨i, hi, rfl, hwr⟩ := hrel
          subst hwr
          by_cases hlt : i < 1600
          · obtain ⟨bb, off, v, rfl, hv, hfit, hc⟩ := IX.out.at hlt
            have HV := Lib.hid (XS.out i v hv)
            have hii : (i : Int) < 1600 := by omega
            clear hv hfit
            by_cases hv0 : v = 0
            · subst hv0
              clear HV
              go_wp2_with fail
              go_roundw
              case rel => exact ⟨i + 1, by omega, by go_num, trivial⟩
              case measure => simp [intOf]; omega
            · have nv : (v != 0) = true := by simp [hv0]
              have hin := HH.out.box ((i % 40 : Nat) : Int) ((i / 40 : Nat) : Int) (by rw [HV.out]; exact hv0)
              have hfar := HH.out.far
              have l3 := Int.natCast_nonneg (i / 40)
              have l4 := Int.natCast_nonneg (i % 40)
              obtain ⟨r, hr⟩ : ∃ r : Nat, i % 40 = r := ⟨_, rfl⟩
              obtain ⟨t, ht⟩ : ∃ t : Nat, i / 40 = t := ⟨_, rfl⟩
              have hr1 : r < 40 := by omega
              have ht1 : t ≤ 40 := by omega
              rw [hr, ht] at hin
              have hrem : IntKind.i64.wrap (((i : Int)).tmod 40) = (r : Int) := by rw [show ((i : Int)).tmod 40 = ((i % 40 : Nat) : Int) from rfl, hr]; exact wrap_i64 _ (by omega) (by omega)
              have hquo : IntKind.i64.wrap (((i : Int)).tdiv 40) = (t : Int) := by rw [show ((i : Int)).tdiv 40 = ((i / 40 : Nat) : Int) from rfl, ht]; exact wrap_i64 _ (by omega) (by omega)
              have hrem2 : ((i : Int)).tmod 40 = (r : Int) := by rw [show ((i : Int)).tmod 40 = ((i % 40 : Nat) : Int) from rfl, hr]
              have hquo2 : ((i : Int)).tdiv 40 = (t : Int) := by rw [show ((i : Int)).tdiv 40 = ((i / 40 : Nat) : Int) from rfl, ht]
              have wr0 : IntKind.i64.wrap (r : Int) = (r : Int) := wrap_i64 _ (by omega) (by omega)
              have wt0 : IntKind.i64.wrap (t : Int) = (t : Int) := wrap_i64 _ (by omega) (by omega)
              have w1 : IntKind.i64.wrap (bx - 1) = bx - 1 := wrap_i64 _ (by omega) (by omega)
              have w2 : IntKind.i64.wrap (by' - 1) = by' - 1 := wrap_i64 _ (by omega) (by omega)
              have w3 : IntKind.i64.wrap (bx + bw) = bx + bw := wrap_i64 _ (by omega) (by omega)
              have w4 : IntKind.i64.wrap (by' + bh) = by' + bh := wrap_i64 _ (by omega) (by omega)
              have d1 : decide ((r : Int) < bx - 1) = false := by simp; omega
              have d3 : decide ((r : Int) > bx + bw) = false := by simp; omega
              have d4 : decide ((t : Int) < by' - 1) = false := by simp; omega
              have d5 : decide ((t : Int) > by' + bh) = false := by simp; omega
              clear hin hfar l3 l4 hr ht hr1 ht1 HV
              go_wp2_with fail
              go_roundw
              case rel => exact ⟨i + 1, by omega, by go_num, trivial⟩
              case measure => simp [intOf]; omega
          · obtain rfl : i = 1600 := by omega
            go_wp2_with fail
            go_ret
            exact ⟨rfl, KW.out⟩
theorem inside_walk (W H : Int) (a : Option Addr) (n c : Nat) (zs : List Int) (qn sl x y : Int) (s : Bool) (w : World) (hW : -9223372036854775808 ≤ W ∧ W ≤ 9223372036854775807) (hH : -9223372036854775808 ≤ H ∧ H ≤ 9223372036854775807) (hn : n ≤ c) (hz : Ints w a n zs)
    (h1 : -9223372036854775808 ≤ qn ∧ qn ≤ 9223372036854775807) (h2 : -9223372036854775808 ≤ sl ∧ sl ≤ 9223372036854775807) (h3 : -9223372036854775808 ≤ x ∧ x ≤ 9223372036854775807) (h4 : -9223372036854775808 ≤ y ∧ y ≤ 9223372036854775807) :
    Calls Try.prog 10 #[.agg #[.int .i64 W, .int .i64 H, .slice a n c], .int .i64 qn, .int .i64 sl, .int .i64 x, .int .i64 y, .bool s] w (Yes w) := inside_start W H a n c zs qn sl x y s w hz
end Go.Proofs.Ytfcndldobjpbnaa
