/- AffineQuarters: the walk. (printed by genLQ.py) -/
import Derived.Test.YtfcndldobjpbnaaLMA
import Derived.Test.YtfcndldobjpbnaaLSA
import Derived.Test.YtfcndldobjpbnaaZ
namespace Go.Proofs.Ytfcndldobjpbnaa
open Go.RowKit Go.Maps
set_option linter.unusedVariables false

namespace Af
/-- A picture behind so many quarter turns. -/
def turns (W H : Int) (zs : List Int) (s : Bool) : Nat → Int × Int × List Int
  | 0 => (W, H, zs)
  | i + 1 => ((turns W H zs s i).2.1, (turns W H zs s i).1, quarter (turns W H zs s i).1 (turns W H zs s i).2.1 (turns W H zs s i).2.2 s)
theorem turns_ok {W H : Int} {zs : List Int} (hp : PicOk W H zs) (hW : W ≤ 40) (hH : H ≤ 40) (s : Bool) (i : Nat) :
    PicOk (turns W H zs s i).1 (turns W H zs s i).2.1 (turns W H zs s i).2.2 ∧ (turns W H zs s i).1 ≤ 40 ∧ (turns W H zs s i).2.1 ≤ 40 := by
  induction i with
  | zero => exact ⟨hp, hW, hH⟩
  | succ i ih => exact ⟨quarter_pic ih.1 s, ih.2.2, ih.2.1⟩
theorem turns_four {W H : Int} {zs : List Int} (hp : PicOk W H zs) (s : Bool) : turns W H zs s 4 = (W, H, zs) := by
  show (W, H, quarter H W (quarter W H (quarter H W (quarter W H zs s) s) s) s) = _
  rw [quarter_four hp s]
end Af
/-- A picture that came in (block B), and the one that is turned (block A). -/
structure Turn (w : World) (B A : Nat) (W H : Int) (a : Option Addr) (n c : Nat) (x y : Int) (aq : Option Addr) (k capq : Nat) (xs : List Int) (w' : World) : Prop where
  pic : PicB w' B 44 W H a n c
  cur : PicB w' A 44 x y aq k capq
  px : Ints w' aq k xs
  keeps : Keeps none' w w'
  apart : w.heap.size ≤ A ∧ B ≠ A
theorem Turn.step {w w1 w2 : World} {B A : Nat} {W H : Int} {a : Option Addr} {n c : Nat} {x y : Int} {aq : Option Addr} {k capq : Nat} {xs : List Int} (h : Turn w B A W H a n c x y aq k capq xs w1)
    (kk : Keeps none' w1 w2) {x' y' : Int} {aq' : Option Addr} {k' capq' : Nat} {xs' : List Int} (i : Ints w2 aq' k' xs') (far : ∀ b off, aq' = some ⟨b, off, none⟩ → w1.heap.size ≤ b) :
    Turn w B A W H a n c x' y' aq' k' capq' xs' (((w2.setCell ⟨A, 0, none⟩ (.int .i64 x')).setCell ⟨A, 1, none⟩ (.int .i64 y')).setCell ⟨A, 2, none⟩ (.slice aq' k' capq')) := by
  have hA := h.cur.lt
  have ha := h.apart
  refine ⟨(((h.pic.later kk).set ha.2 _).set ha.2 _).set ha.2 _, (h.cur.later kk).all _ _ _ _ _, ?_, (((h.keeps.next kk).setCell (fun e => by simp only at e; omega) _).setCell (fun e => by simp only at e; omega) _).setCell (fun e => by simp only at e; omega) _, ha⟩
  have k3 : Keeps (fun q => q = A) w2 (((w2.setCell ⟨A, 0, none⟩ (.int .i64 x')).setCell ⟨A, 1, none⟩ (.int .i64 y')).setCell ⟨A, 2, none⟩ (.slice aq' k' capq')) := (((Keeps.refl (fun q => q = A) w2).setCell (p := ⟨A, 0, none⟩) (fun _ => rfl) (.int .i64 x')).setCell (p := ⟨A, 1, none⟩) (fun _ => rfl) (.int .i64 y')).setCell (p := ⟨A, 2, none⟩) (fun _ => rfl) (.slice aq' k' capq')
  refine i.keep k3 (fun b off e hb => ?_)
  have h1 := far b off e
  have h2 : b = A := hb
  omega
theorem Turn.first {w w1 : World} {B : Nat} {W H : Int} {a : Option Addr} {n c : Nat} {zs : List Int} (p : PicB w1 B 44 W H a n c) (z : Ints w1 a n zs) (k : Keeps none' w w1) (hB : w.heap.size ≤ w1.heap.size) :
    Turn w B w1.heap.size W H a n c W H a n c zs (w1.alloc (.cells #[.int .i64 W, .int .i64 H, .slice a n c] 44)) :=
  ⟨p.alloc _, PicB.new _ _ _ _ _ _ _, z.later ((Keeps.refl _ _).alloc _), k.alloc _, hB, by have := p.lt; omega⟩
set_option maxRecDepth 100000 in
set_option maxHeartbeats 3200000 in
theorem quarters_start (W H : Int) (a : Option Addr) (n c : Nat) (zs : List Int) (s : Bool) (w : World) (hz : Ints w a n zs) :
    Calls Try.prog 11 #[.agg #[.int .i64 W, .int .i64 H, .slice a n c], .bool s] w (Yes w) := by
  have P0 := Lib.hid (PicB.new w 44 W H a n c)
  have K0 := Lib.hid ((Keeps.refl none' w).alloc (.cells #[.int .i64 W, .int .i64 H, .slice a n c] 44))
  have Z := Lib.hid hz
  clear hz
  go_enter Try.func11, Try.ntmps11
  go_upto_region 1 with (fail)
  generalize w.alloc (.cells #[.int .i64 W, .int .i64 H, .slice a n c] 44) = w1 at *
  obtain ⟨B, hB⟩ : ∃ B, B = w.heap.size := ⟨_, rfl⟩
  rw [← hB] at P0
  rw [← hB]
  clear hB
  go_wp2_with fail
  refine (anchor_any _).mono ?_
  rintro e w2 ⟨rfl, hk⟩
  have P1 := Lib.hid (P0.out.later hk)
  have K1 := Lib.hid (K0.out.next hk)
  clear hk P0 K0
  have c0 := P1.out.c0
  have c1 := P1.out.c1
  have c2 := P1.out.c2
  by_cases g0 : (n : Int) > 400
  · have t0 : decide ((n : Int) > 400) = true := by simpa using g0
    clear g0
    go_wp2_with fail
    go_ret
    exact ⟨rfl, K1.out⟩
  have t0 : decide ((n : Int) > 400) = false := by simpa using g0
  have hn : n ≤ 400 := by omega
  clear g0
  go_wp2_with fail
  refine (plain_any _ _ _ _ _ _).mono ?_
  rintro e w3 ⟨rfl, hk⟩
  have P2 := Lib.hid (P1.out.later hk)
  have K2 := Lib.hid (K1.out.next hk)
  clear hk P1 K1 c0 c1 c2
  have c0 := P2.out.c0
  have c1 := P2.out.c1
  have c2 := P2.out.c2
  by_cases hp : PicOk W H zs
  · have RT := Lib.hid (docPic_any W H a n c zs w3 (Z.out.later K2.out) (by omega) true (by simp [hp]))
    have HP := Lib.hid hp
    clear hp
    go_wp2_with fail
    refine RT.out.mono ?_
    rintro e w4 ⟨rfl, hk⟩
    have P3 := Lib.hid (P2.out.later hk)
    have K3 := Lib.hid (K2.out.next hk)
    clear hk P2 K2 c0 c1 c2 RT
    have c0 := P3.out.c0
    have c1 := P3.out.c1
    have c2 := P3.out.c2
    by_cases g1 : W > 40
    · have t1 : decide (W > 40) = true := by simpa using g1
      clear g1
      go_wp2_with fail
      go_ret
      exact ⟨rfl, K3.out⟩
    have t1 : decide (W > 40) = false := by simpa using g1
    by_cases g2 : H > 40
    · have t2 : decide (H > 40) = true := by simpa using g2
      clear g1 g2
      go_wp2_with fail
      go_ret
      exact ⟨rfl, K3.out⟩
    have t2 : decide (H > 40) = false := by simpa using g2
    have OK := Lib.hid (fun i => Af.turns_ok HP.out (by omega) (by omega) s i)
    clear g1 g2
    go_upto_region 5 with (fail)
    have T5 := Lib.hid (Turn.first P3.out (Z.out.later K3.out) K3.out K3.out.size)
    go_upto_region 6 with (fail)
    generalize w4.alloc (.cells #[.int .i64 W, .int .i64 H, .slice a n c] 44) = w5 at *
    generalize w4.heap.size = A at *
    clear c0 c1 c2 P3 K3 t0 t1 t2
    go_wp2_with fail
    go_loopw [30] (fun cnt wi => ∃ i : Nat, i ≤ 4 ∧ cnt = .int .i64 i ∧ ∃ aq k capq, Turn w B A W H a n c (Af.turns W H zs s i).1 (Af.turns W H zs s i).2.1 aq k capq (Af.turns W H zs s i).2.2 wi) (fun cnt _ => 4 - (intOf cnt).toNat)
    case atStart => exact ⟨0, by omega, rfl, a, n, c, T5.out⟩
    case round =>
      clear T5
      obtain ⟨i, hi, rfl, aq, k, capq, hT⟩ := hrel
      have T := Lib.hid hT
      have OKi := Lib.hid (OK.out i)
      clear hT
      by_cases hlt : i < 4
      · have NX := Lib.hid (show Af.turns W H zs s (i + 1) = ((Af.turns W H zs s i).2.1, (Af.turns W H zs s i).1, Af.quarter (Af.turns W H zs s i).1 (Af.turns W H zs s i).2.1 (Af.turns W H zs s i).2.2 s) from rfl)
        generalize Af.turns W H zs s i = p at *
        obtain ⟨x, y, xs⟩ := p
        have hp := OKi.out.1
        have hx := OKi.out.2.1
        have hy := OKi.out.2.2
        simp only at hp hx hy
        have x0 := hp.1.1
        have y0 := hp.2.1.1
        have hm : x * y ≤ 1600 := by
          have h1 := Int.mul_le_mul hx hy y0 (by omega : (0 : Int) ≤ 40)
          omega
        have hk : k ≤ 1600 := by
          have h1 := hp.2.2.1
          have h2 := T.out.px.1
          simp only at h2
          omega
        have S' : ∀ w', Ints w' aq k xs → Calls Try.prog 22 #[.agg #[.int .i64 x, .int .i64 y, .slice aq k capq], .agg #[.int .i64 0, .int .i64 (-65536), .int .i64 65536, .int .i64 0, .int .i64 (65536 * y), .int .i64 0], .int .i64 y, .int .i64 x, .bool s] w' (SeeFar y x (y.toNat * x.toNat) (Af.quarter x y xs s) w') := fun w' hz => by
          have := seeP_far x y aq k capq xs (Af.turn y) y x s w' (by rw [Af.turn_back ⟨y0, hy⟩]) ⟨hp.2.1, hp.1, by rw [Int.mul_comm]; omega⟩ hz (by omega) hp
          rw [Af.turn_back ⟨y0, hy⟩] at this
          exact this
        have S := Lib.hid S'
        have wm : IntKind.i64.wrap (65536 * y) = 65536 * y := wrap_i64 _ (by omega) (by omega)
        have T' := Lib.hid T.out
        simp only at T'
        clear T OK hm hk S' hp hx hy x0 y0
        have c0 := T'.out.cur.c0
        have c1 := T'.out.cur.c1
        have c2 := T'.out.cur.c2
        go_wp2_with fail
        refine (S.out _ T'.out.px).mono ?_
        rintro e w7 ⟨aq', capq', rfl, hi', hk', hf'⟩
        have U := Lib.hid (T'.out.step (x' := y) (y' := x) (capq' := capq') hk' hi' hf')
        have d0 := (T'.out.cur.later hk').c0
        have d1 := (T'.out.cur.later hk').c1
        have d2 := (T'.out.cur.later hk').c2
        have f0 := (T'.out.cur.later hk').fr (i := 0)
        have f1 := (T'.out.cur.later hk').fr (i := 1)
        have f2 := (T'.out.cur.later hk').fr (i := 2)
        clear hi' hk' hf' c0 c1 c2 S wm
        go_wp2_with fail
        go_roundw
        case rel => exact ⟨i + 1, by omega, by go_num, aq', _, capq', by rw [NX.out]; exact U.out⟩
        case measure => simp [intOf]; omega
      · obtain rfl : i = 4 := by omega
        have T4 := T.out
        rw [Af.turns_four HP.out s] at T4
        simp only at T4
        have TT := Lib.hid T4
        clear T4 T OKi OK
        have e0 := TT.out.pic.c0
        have e1 := TT.out.pic.c1
        have e2 := TT.out.pic.c2
        have c0 := TT.out.cur.c0
        have c1 := TT.out.cur.c1
        have c2 := TT.out.cur.c2
        obtain rfl : k = n := TT.out.px.1.symm.trans Z.out.1
        have SM := Lib.hid (same_yes aq a k capq c zs wr (by omega) TT.out.px (Z.out.later TT.out.keeps))
        go_wp2_with fail
        refine SM.out.mono ?_
        rintro e w9 ⟨rfl, rfl⟩
        go_wp2_with fail
        go_ret
        exact ⟨rfl, TT.out.keeps⟩
  · have RT := Lib.hid (docPic_any W H a n c zs w3 (Z.out.later K2.out) (by omega) false (by simp [hp]))
    clear hp
    go_wp2_with fail
    refine RT.out.mono ?_
    rintro e w4 ⟨rfl, hk⟩
    have K3 := Lib.hid (K2.out.next hk)
    clear hk P2 K2 c0 c1 c2 RT
    go_wp2_with fail
    go_ret
    exact ⟨rfl, K3.out⟩
theorem quarters_walk (W H : Int) (a : Option Addr) (n c : Nat) (zs : List Int) (s : Bool) (w : World) (hW : -9223372036854775808 ≤ W ∧ W ≤ 9223372036854775807) (hH : -9223372036854775808 ≤ H ∧ H ≤ 9223372036854775807) (hn : n ≤ c) (hz : Ints w a n zs) :
    Calls Try.prog 11 #[.agg #[.int .i64 W, .int .i64 H, .slice a n c], .bool s] w (Yes w) := quarters_start W H a n c zs s w hz
end Go.Proofs.Ytfcndldobjpbnaa
