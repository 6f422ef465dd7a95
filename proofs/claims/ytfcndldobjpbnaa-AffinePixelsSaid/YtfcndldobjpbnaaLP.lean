/- AffinePixels: what comes of pixels is pixels. (printed by genLP.py) -/
import Derived.Test.YtfcndldobjpbnaaLA
namespace Go.Proofs.Ytfcndldobjpbnaa
open Go.RowKit Go.Maps
set_option linter.unusedVariables false

namespace Af
/-- No colour above its alpha. -/
def PixOk (v : Int) : Prop := Num v ∧ p0 v ≤ p3 v ∧ p1 v ≤ p3 v ∧ p2 v ≤ p3 v
theorem zero_pix : PixOk 0 := ⟨by decide, by decide, by decide, by decide⟩
theorem join_p {a b c d : Int} (ha : Byte a) (hb : Byte b) (hc : Byte c) (hd : Byte d) : p0 (join a b c d) = a ∧ p1 (join a b c d) = b ∧ p2 (join a b c d) = c ∧ p3 (join a b c d) = d := by
  unfold join p0 p1 p2 p3 Byte at *; omega
theorem mixC_le {s t p q r m p' q' r' m' : Int} (hs : Byte s) (ht : Byte t) (h1 : p ≤ p') (h2 : q ≤ q') (h3 : r ≤ r') (h4 : m ≤ m') : mixC s t p q r m ≤ mixC s t p' q' r' m' := by
  obtain ⟨w1, w2, w3, w4, -⟩ := weights hs ht
  have a := Int.mul_le_mul_of_nonneg_right h1 w1.1
  have b := Int.mul_le_mul_of_nonneg_right h2 w2.1
  have c := Int.mul_le_mul_of_nonneg_right h3 w3.1
  have d := Int.mul_le_mul_of_nonneg_right h4 w4.1
  unfold mixC near
  omega
theorem mixed_pix {s t p q r m : Int} (hs : Byte s) (ht : Byte t) (hp : PixOk p) (hq : PixOk q) (hr : PixOk r) (hm : PixOk m) : PixOk (mixed s t p q r m) := by
  have b0 := mix_byte hs ht (p0_byte p) (p0_byte q) (p0_byte r) (p0_byte m)
  have b1 := mix_byte hs ht (p1_byte p) (p1_byte q) (p1_byte r) (p1_byte m)
  have b2 := mix_byte hs ht (p2_byte p) (p2_byte q) (p2_byte r) (p2_byte m)
  have b3 := mix_byte hs ht (p3_byte p) (p3_byte q) (p3_byte r) (p3_byte m)
  obtain ⟨e0, e1, e2, e3⟩ := join_p b0 b1 b2 b3
  refine ⟨mixed_num hs ht _ _ _ _, ?_, ?_, ?_⟩
  · unfold mixed; rw [e0, e3]; exact mixC_le hs ht hp.2.1 hq.2.1 hr.2.1 hm.2.1
  · unfold mixed; rw [e1, e3]; exact mixC_le hs ht hp.2.2.1 hq.2.2.1 hr.2.2.1 hm.2.2.1
  · unfold mixed; rw [e2, e3]; exact mixC_le hs ht hp.2.2.2 hq.2.2.2 hr.2.2.2 hm.2.2.2
theorem picAt_pix {W H : Int} {zs : List Int} (h : ∀ z ∈ zs, PixOk z) (x y : Int) : PixOk (picAt W H zs x y) := by
  unfold picAt
  split
  · exact zero_pix
  · rw [List.getD_eq_getElem?_getD]
    cases hz : zs[(y * W + x).toNat]? with
    | none => exact zero_pix
    | some z => exact h z (List.mem_of_getElem? hz)
theorem seen_pix {W H : Int} {zs : List Int} (h : ∀ z ∈ zs, PixOk z) (b : M) (s : Bool) (x y : Int) : PixOk (seen W H zs b s x y) := by
  unfold seen look
  cases s
  · exact picAt_pix h _ _
  · exact mixed_pix (low_byte _) (low_byte _) (picAt_pix h _ _) (picAt_pix h _ _) (picAt_pix h _ _) (picAt_pix h _ _)
theorem seenTo_pix {W H : Int} {zs : List Int} (h : ∀ z ∈ zs, PixOk z) (b : M) (s : Bool) (w k : Nat) : ∀ z ∈ seenTo W H zs b s w k, PixOk z := by
  intro z hz
  unfold seenTo at hz
  obtain ⟨i, -, rfl⟩ := List.mem_map.1 hz
  exact seen_pix h _ _ _ _
end Af
theorem part_wild (v c : Int) (hc : c = 0 ∨ c = 1 ∨ c = 2 ∨ c = 3) : ∃ r : Int, ∀ w : World, Calls Try.prog 44 #[.int .i64 v, .int .i64 c] w fun e w' => e = .returned (.int .i64 r) ∧ w' = w := by
  rcases hc with rfl | rfl | rfl | rfl
  · refine ⟨(v / 16777216).tmod 256, fun w => ?_⟩
    go_enter Try.func44, Try.ntmps44
    go_wp2_with fail
    go_ret
    exact ⟨rfl, rfl⟩
  · refine ⟨(v / 65536).tmod 256, fun w => ?_⟩
    go_enter Try.func44, Try.ntmps44
    go_wp2_with fail
    go_ret
    exact ⟨rfl, rfl⟩
  · refine ⟨(v / 256).tmod 256, fun w => ?_⟩
    go_enter Try.func44, Try.ntmps44
    go_wp2_with fail
    go_ret
    exact ⟨rfl, rfl⟩
  · refine ⟨v.tmod 256, fun w => ?_⟩
    go_enter Try.func44, Try.ntmps44
    go_wp2_with fail
    go_ret
    exact ⟨rfl, rfl⟩
def PixB (r0 r1 r2 r3 v : Int) : Prop := r0 ≤ r3 ∧ r1 ≤ r3 ∧ r2 ≤ r3 ∧ Af.Num v
instance (r0 r1 r2 r3 v : Int) : Decidable (PixB r0 r1 r2 r3 v) := inferInstanceAs (Decidable (_ ∧ _ ∧ _ ∧ _))
def Cnt3 (P0 P1 P2 P3 : World → Prop) (c : Value) (w : World) : Prop := (c = .int .i64 0 ∧ P0 w) ∨ (c = .int .i64 1 ∧ P1 w) ∨ (c = .int .i64 2 ∧ P2 w) ∨ (c = .int .i64 3 ∧ P3 w)
set_option maxHeartbeats 1600000 in
theorem pixel_gen (v r0 r1 r2 r3 : Int) (w : World) (T0 : ∀ w : World, Calls Try.prog 44 #[.int .i64 v, .int .i64 0] w fun e w' => e = .returned (.int .i64 r0) ∧ w' = w) (T1 : ∀ w : World, Calls Try.prog 44 #[.int .i64 v, .int .i64 1] w fun e w' => e = .returned (.int .i64 r1) ∧ w' = w)
    (T2 : ∀ w : World, Calls Try.prog 44 #[.int .i64 v, .int .i64 2] w fun e w' => e = .returned (.int .i64 r2) ∧ w' = w) (T3 : ∀ w : World, Calls Try.prog 44 #[.int .i64 v, .int .i64 3] w fun e w' => e = .returned (.int .i64 r3) ∧ w' = w) :
    Calls Try.prog 27 #[.int .i64 v] w fun e w' => e = .returned (.bool (decide (PixB r0 r1 r2 r3 v))) ∧ w' = w := by
  have HY := Lib.hid (show PixB r0 r1 r2 r3 v → decide (PixB r0 r1 r2 r3 v) = true from fun h => decide_eq_true h)
  have HN := Lib.hid (show ¬ PixB r0 r1 r2 r3 v → decide (PixB r0 r1 r2 r3 v) = false from fun h => decide_eq_false h)
  generalize decide (PixB r0 r1 r2 r3 v) = z at *
  have C0 := Lib.hid T0
  have C1 := Lib.hid T1
  have C2 := Lib.hid T2
  have C3 := Lib.hid T3
  clear T0 T1 T2 T3
  go_enter Try.func27, Try.ntmps27
  go_wp2_with fail
  go_loopw [3] (Cnt3 (InM w True) (InM w (r0 ≤ r3)) (InM w (r0 ≤ r3 ∧ r1 ≤ r3)) (InM w (r0 ≤ r3 ∧ r1 ≤ r3 ∧ r2 ≤ r3))) (fun cnt _ => 3 - (intOf cnt).toNat)
  case atStart => exact .inl ⟨rfl, trivial, rfl⟩
  case round =>
    rcases hrel with ⟨rfl, hW, rfl⟩ | ⟨rfl, hW, rfl⟩ | ⟨rfl, hW, rfl⟩ | ⟨rfl, hW, rfl⟩
    · have HW := Lib.hid hW
      clear hW
      by_cases hG : r0 ≤ r3
      · have t : decide (r3 < r0) = false := by simp; omega
        have HG := Lib.hid hG
        clear hG
        go_wp2_with fail
        refine (C0.out _).mono ?_
        rintro e wr ⟨rfl, rfl⟩
        go_wp2_with fail
        refine (C3.out _).mono ?_
        rintro e wr ⟨rfl, rfl⟩
        go_wp2_with fail
        go_roundw
        case rel => exact .inr (.inl ⟨rfl, HG.out, rfl⟩)
        case measure => decide
      · have t : decide (r3 < r0) = true := by simp; omega
        have hz := HN.out (fun h => hG h.1)
        subst hz
        clear hG
        go_wp2_with fail
        refine (C0.out _).mono ?_
        rintro e wr ⟨rfl, rfl⟩
        go_wp2_with fail
        refine (C3.out _).mono ?_
        rintro e wr ⟨rfl, rfl⟩
        go_wp2_with fail
        go_ret
        exact ⟨rfl, rfl⟩
    · have HW := Lib.hid hW
      clear hW
      by_cases hG : r1 ≤ r3
      · have t : decide (r3 < r1) = false := by simp; omega
        have HG := Lib.hid hG
        clear hG
        go_wp2_with fail
        refine (C1.out _).mono ?_
        rintro e wr ⟨rfl, rfl⟩
        go_wp2_with fail
        refine (C3.out _).mono ?_
        rintro e wr ⟨rfl, rfl⟩
        go_wp2_with fail
        go_roundw
        case rel => exact .inr (.inr (.inl ⟨rfl, ⟨HW.out, HG.out⟩, rfl⟩))
        case measure => decide
      · have t : decide (r3 < r1) = true := by simp; omega
        have hz := HN.out (fun h => hG h.2.1)
        subst hz
        clear hG
        go_wp2_with fail
        refine (C1.out _).mono ?_
        rintro e wr ⟨rfl, rfl⟩
        go_wp2_with fail
        refine (C3.out _).mono ?_
        rintro e wr ⟨rfl, rfl⟩
        go_wp2_with fail
        go_ret
        exact ⟨rfl, rfl⟩
    · have HW := Lib.hid hW
      clear hW
      by_cases hG : r2 ≤ r3
      · have t : decide (r3 < r2) = false := by simp; omega
        have HG := Lib.hid hG
        clear hG
        go_wp2_with fail
        refine (C2.out _).mono ?_
        rintro e wr ⟨rfl, rfl⟩
        go_wp2_with fail
        refine (C3.out _).mono ?_
        rintro e wr ⟨rfl, rfl⟩
        go_wp2_with fail
        go_roundw
        case rel => exact .inr (.inr (.inr ⟨rfl, ⟨HW.out.1, HW.out.2, HG.out⟩, rfl⟩))
        case measure => decide
      · have t : decide (r3 < r2) = true := by simp; omega
        have hz := HN.out (fun h => hG h.2.2.1)
        subst hz
        clear hG
        go_wp2_with fail
        refine (C2.out _).mono ?_
        rintro e wr ⟨rfl, rfl⟩
        go_wp2_with fail
        refine (C3.out _).mono ?_
        rintro e wr ⟨rfl, rfl⟩
        go_wp2_with fail
        go_ret
        exact ⟨rfl, rfl⟩
    · have HW := Lib.hid hW
      clear hW
      by_cases h0 : 0 ≤ v
      · have t0 : decide (0 ≤ v) = true := by simpa using h0
        by_cases h1 : v < 4294967296
        · have t1 : decide (v < 4294967296) = true := by simpa using h1
          have hz := HY.out ⟨HW.out.1, HW.out.2.1, HW.out.2.2, h0, h1⟩
          subst hz
          clear h0 h1
          go_wp2_with fail
          go_ret
          exact ⟨rfl, rfl⟩
        · have t1 : decide (v < 4294967296) = false := by simpa using h1
          have hz := HN.out (fun h => h1 h.2.2.2.2)
          subst hz
          clear h0 h1
          go_wp2_with fail
          go_ret
          exact ⟨rfl, rfl⟩
      · have t0 : decide (0 ≤ v) = false := by simpa using h0
        have hz := HN.out (fun h => h0 h.2.2.2.1)
        subst hz
        clear h0
        go_wp2_with fail
        go_ret
        exact ⟨rfl, rfl⟩
theorem pixel_yes {v : Int} (h : Af.PixOk v) (w : World) : Calls Try.prog 27 #[.int .i64 v] w fun e w' => e = .returned (.bool true) ∧ w' = w := by
  have := pixel_gen v _ _ _ _ w (part_0 v h.1) (part_1 v h.1) (part_2 v h.1) (part_3 v h.1)
  rwa [decide_eq_true (show PixB _ _ _ _ v from ⟨h.2.1, h.2.2.1, h.2.2.2, h.1⟩)] at this
theorem pixel_no {v : Int} (h : ¬ Af.PixOk v) (w : World) : Calls Try.prog 27 #[.int .i64 v] w fun e w' => e = .returned (.bool false) ∧ w' = w := by
  by_cases hn : Af.Num v
  · have := pixel_gen v _ _ _ _ w (part_0 v hn) (part_1 v hn) (part_2 v hn) (part_3 v hn)
    rwa [decide_eq_false (fun g => h ⟨hn, g.1, g.2.1, g.2.2.1⟩)] at this
  · obtain ⟨r0, h0⟩ := part_wild v 0 (by omega)
    obtain ⟨r1, h1⟩ := part_wild v 1 (by omega)
    obtain ⟨r2, h2⟩ := part_wild v 2 (by omega)
    obtain ⟨r3, h3⟩ := part_wild v 3 (by omega)
    have := pixel_gen v r0 r1 r2 r3 w h0 h1 h2 h3
    rwa [decide_eq_false (fun g => hn g.2.2.2)] at this
def PixTo (zs : List Int) (i : Nat) : Prop := ∀ z ∈ zs.take i, Af.PixOk z
theorem PixTo.zero (zs : List Int) : PixTo zs 0 := by intro z hz; simp at hz
theorem PixTo.more {zs : List Int} {i : Nat} {z : Int} (h : PixTo zs i) (hz : zs[i]? = some z) (hn : Af.PixOk z) : PixTo zs (i + 1) := by
  intro y hy
  rw [take_more hz, List.mem_append] at hy
  rcases hy with hy | hy
  · exact h y hy
  · simp at hy; subst hy; exact hn
set_option maxRecDepth 100000 in
set_option maxHeartbeats 6400000 in
theorem pixels_walk (W H : Int) (a : Option Addr) (n c : Nat) (zs : List Int) (m : Af.M) (pw ph : Int) (s : Bool) (w : World) (hW : -9223372036854775808 ≤ W ∧ W ≤ 9223372036854775807) (hH : -9223372036854775808 ≤ H ∧ H ≤ 9223372036854775807) (hn : n ≤ c) (hz : Ints w a n zs)
    (hpw : -9223372036854775808 ≤ pw ∧ pw ≤ 9223372036854775807) (hph : -9223372036854775808 ≤ ph ∧ ph ≤ 9223372036854775807) : Calls Try.prog 8 #[.agg #[.int .i64 W, .int .i64 H, .slice a n c], .agg #[.int .i64 m.a, .int .i64 m.b, .int .i64 m.c, .int .i64 m.d, .int .i64 m.e, .int .i64 m.f], .int .i64 pw, .int .i64 ph, .bool s] w (Yes w) := by
  have P0 := Lib.hid ((PicB.new w 44 W H a n c).alloc (.cells #[.int .i64 m.a, .int .i64 m.b, .int .i64 m.c, .int .i64 m.d, .int .i64 m.e, .int .i64 m.f] 23))
  have M0' := Six.new (w.alloc (.cells #[.int .i64 W, .int .i64 H, .slice a n c] 44)) 23 m
  rw [show (w.alloc (.cells #[.int .i64 W, .int .i64 H, .slice a n c] 44)).heap.size = w.heap.size + 1 by simp] at M0'
  have M0 := Lib.hid M0'
  clear M0'
  have K0 := Lib.hid (((Keeps.refl none' w).alloc (.cells #[.int .i64 W, .int .i64 H, .slice a n c] 44)).alloc (.cells #[.int .i64 m.a, .int .i64 m.b, .int .i64 m.c, .int .i64 m.d, .int .i64 m.e, .int .i64 m.f] 23))
  have HZ := Lib.hid hz
  clear hz hW hH hn hpw hph
  go_enter Try.func8, Try.ntmps8
  go_upto_region 1 with (fail)
  generalize (w.alloc (.cells #[.int .i64 W, .int .i64 H, .slice a n c] 44)).alloc (.cells #[.int .i64 m.a, .int .i64 m.b, .int .i64 m.c, .int .i64 m.d, .int .i64 m.e, .int .i64 m.f] 23) = w1 at *
  obtain ⟨A, hA⟩ : ∃ A, A = w.heap.size := ⟨_, rfl⟩
  obtain ⟨B, hB⟩ : ∃ B, B = A + 1 := ⟨_, rfl⟩
  rw [← hA] at P0
  rw [← hA, ← hB] at M0
  rw [← hA, ← hB]
  clear hA hB
  go_wp2_with fail
  refine (anchor_any _).mono ?_
  rintro e w2 ⟨rfl, hk⟩
  have P1 := Lib.hid (P0.out.later hk)
  have M1 := Lib.hid (M0.out.later hk)
  have K1 := Lib.hid (K0.out.next hk)
  clear hk P0 M0 K0
  have a0 := P1.out.c0
  have a1 := P1.out.c1
  have a2 := P1.out.c2
  by_cases g0 : 2000 < n
  · have t_g0 : decide ((2000 : Int) < (n : Int)) = true := by simp; omega
    have u_g0 : decide (2000 < n) = true := by simp; omega
    clear g0
    go_wp2_with fail
    go_ret
    exact ⟨rfl, K1.out⟩
  have t_g0 : decide ((2000 : Int) < (n : Int)) = false := by simp; omega
  have u_g0 : decide (2000 < n) = false := by simp; omega
  by_cases g1 : pw < 0
  · have t_g1 : decide (pw < 0) = true := by simp; omega
    clear g0 g1
    go_wp2_with fail
    go_ret
    exact ⟨rfl, K1.out⟩
  have t_g1 : decide (pw < 0) = false := by simp; omega
  by_cases g2 : ph < 0
  · have t_g2 : decide (ph < 0) = true := by simp; omega
    clear g0 g1 g2
    go_wp2_with fail
    go_ret
    exact ⟨rfl, K1.out⟩
  have t_g2 : decide (ph < 0) = false := by simp; omega
  by_cases g3 : 60 < pw
  · have t_g3 : decide (60 < pw) = true := by simp; omega
    clear g0 g1 g2 g3
    go_wp2_with fail
    go_ret
    exact ⟨rfl, K1.out⟩
  have t_g3 : decide (60 < pw) = false := by simp; omega
  by_cases g4 : 60 < ph
  · have t_g4 : decide (60 < ph) = true := by simp; omega
    clear g0 g1 g2 g3 g4
    go_wp2_with fail
    go_ret
    exact ⟨rfl, K1.out⟩
  have t_g4 : decide (60 < ph) = false := by simp; omega
  go_wp2_with fail
  clear t_g0 u_g0 t_g1 t_g2 t_g3 t_g4
  have HG := Lib.hid (show n ≤ 2000 ∧ (0 ≤ pw ∧ pw ≤ 60) ∧ (0 ≤ ph ∧ ph ≤ 60) from ⟨by omega, ⟨by omega, by omega⟩, by omega, by omega⟩)
  have hn2 : n ≤ 2000 := by omega
  clear g0 g1 g2 g3 g4
  go_loopw [42] (fun cnt wr => ∃ i : Nat, i ≤ n ∧ cnt = .int .i64 i ∧ PixTo zs i ∧ wr = w2) (fun cnt _ => n - (intOf cnt).toNat)
  case atStart => exact ⟨0, Nat.zero_le _, rfl, PixTo.zero zs, rfl⟩
  case round =>
    obtain ⟨i, hi, rfl, hal, hwr⟩ := hrel
    subst hwr
    have HAL := Lib.hid hal
    clear hal
    by_cases hlt : i < n
    · obtain ⟨bb, off, z, rfl, hz, hfit, hc⟩ := (HZ.out.later K1.out).at hlt
      have HZZ := Lib.hid hz
      clear hz hfit
      have hii : (i : Int) < n := by omega
      by_cases hx : Af.PixOk z
      · have C := Lib.hid (fun w => pixel_yes hx w)
        have A2 := Lib.hid (HAL.out.more HZZ.out hx)
        clear hx
        go_wp2_with fail
        refine (C.out _).mono ?_
        rintro e wr ⟨rfl, rfl⟩
        go_wp2_with fail
        go_roundw
        case rel => exact ⟨i + 1, by omega, by go_num, A2.out, trivial⟩
        case measure => simp [intOf]; omega
      · have C := Lib.hid (fun w => pixel_no hx w)
        clear hx
        go_wp2_with fail
        refine (C.out _).mono ?_
        rintro e wr ⟨rfl, rfl⟩
        go_wp2_with fail
        go_ret
        exact ⟨rfl, K1.out⟩
    · obtain rfl : i = n := by omega
      have ALL := Lib.hid (show ∀ z ∈ zs, Af.PixOk z from by
        have := HAL.out
        unfold PixTo at this
        rwa [← HZ.out.1, List.take_length] at this)
      have t9 : decide (i < i) = false := by simp
      clear HAL
      have d0 := M1.out.c0
      have d1 := M1.out.c1
      have d2 := M1.out.c2
      have d3 := M1.out.c3
      have d4 := M1.out.c4
      have d5 := M1.out.c5
      by_cases he : Af.seeE W H zs m pw ph = 0
      · have SE := Lib.hid (see_ok W H a i c zs m pw ph s wr (HZ.out.later K1.out) (by omega) he)
        clear he
        go_wp2_with fail
        refine SE.out.mono ?_
        rintro e w3 ⟨aa, cap, rfl, hI, hk⟩
        have K2 := Lib.hid ((K1.out.next hk).alloc (.cells #[.int .i64 pw, .int .i64 ph, .slice aa (pw.toNat * ph.toNat) cap] 44))
        have I2 := Lib.hid (hI.later (keeps_alloc (o := .cells #[.int .i64 pw, .int .i64 ph, .slice aa (pw.toNat * ph.toNat) cap] 44) rfl))
        have P2 := Lib.hid (PicB.new w3 44 pw ph aa (pw.toNat * ph.toNat) cap)
        have PALL := Lib.hid (Af.seenTo_pix (W := W) (H := H) ALL.out (Af.backE m).1 s pw.toNat (pw.toNat * ph.toNat))
        clear hI hk SE K1 P1 M1 a0 a1 a2 d0 d1 d2 d3 d4 d5 ALL
        go_upto_region 12 with (fail)
        generalize w3.alloc (.cells #[.int .i64 pw, .int .i64 ph, .slice aa (pw.toNat * ph.toNat) cap] 44) = w4 at *
        generalize w3.heap.size = G at *
        obtain ⟨N, hN⟩ : ∃ N, N = pw.toNat * ph.toNat := ⟨_, rfl⟩
        have hN2 : pw * ph = (N : Int) := by
          rw [hN, Int.natCast_mul]
          congr 1 <;> have := HG.out <;> omega
        have hN3 : N ≤ 3600 := by
          have h1 : pw.toNat * ph.toNat ≤ 60 * 60 := Nat.mul_le_mul (by have := HG.out; omega) (by have := HG.out; omega)
          omega
        have wN : IntKind.i64.wrap (pw * ph) = (N : Int) := by rw [hN2]; exact wrap_i64 _ (by omega) (by omega)
        rw [← hN] at I2 P2 PALL
        clear hN hN2
        generalize Af.seenTo W H zs (Af.backE m).1 s pw.toNat N = xs at *
        have q2 := P2.out.c2
        go_wp2_with fail
        go_loopw [68] (fun cnt wr => ∃ j : Nat, j ≤ N ∧ cnt = .int .i64 j ∧ wr = w4) (fun cnt _ => N - (intOf cnt).toNat)
        case atStart => exact ⟨0, Nat.zero_le _, rfl, rfl⟩
        case round =>
          obtain ⟨j, hj, rfl, hwr⟩ := hrel
          subst hwr
          by_cases hlt : j < N
          · obtain ⟨bb, off, z, rfl, hz, hfit, hc⟩ := I2.out.at hlt
            have C := Lib.hid (fun w => pixel_yes (PALL.out z (List.mem_of_getElem? hz)) w)
            clear hz hfit
            have hjj : (j : Int) < N := by omega
            go_wp2_with fail
            refine (C.out _).mono ?_
            rintro e wr ⟨rfl, rfl⟩
            go_wp2_with fail
            go_roundw
            case rel => exact ⟨j + 1, by omega, by go_num, trivial⟩
            case measure => simp [intOf]; omega
          · obtain rfl : j = N := by omega
            have t8 : decide (j < j) = false := by simp
            have t7 : ((j : Int) == (j : Int)) = true := by simp
            go_wp2_with fail
            go_ret
            exact ⟨rfl, K2.out⟩
      · have SE := Lib.hid (see_no W H a i c zs m pw ph s wr (HZ.out.later K1.out) (by omega) he)
        generalize Af.seeE W H zs m pw ph = z at *
        have t8 : (z != 0) = true := by simpa using he
        have t7 : decide (z = 0) = false := by simpa using he
        clear he
        go_wp2_with fail
        refine SE.out.mono ?_
        rintro e w3 ⟨rfl, hk⟩
        have K2 := Lib.hid ((K1.out.next hk).alloc (.cells #[.int .i64 0, .int .i64 0, .slice none 0 0] 44))
        have P2 := Lib.hid (PicB.new w3 44 0 0 none 0 0)
        clear hk SE K1 P1 M1 a0 a1 a2 d0 d1 d2 d3 d4 d5 ALL
        go_upto_region 12 with (fail)
        generalize w3.alloc (.cells #[.int .i64 0, .int .i64 0, .slice none 0 0] 44) = w4 at *
        generalize w3.heap.size = G at *
        have q2 := P2.out.c2
        go_wp2_with fail
        go_ret
        exact ⟨rfl, K2.out⟩
end Go.Proofs.Ytfcndldobjpbnaa
