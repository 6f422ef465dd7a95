/- AffineMoves: the walk. (printed by genLM.py) -/
import Derived.Test.YtfcndldobjpbnaaLMA
import Derived.Test.YtfcndldobjpbnaaLSA
import Derived.Test.YtfcndldobjpbnaaZ
import Derived.Deep.CutRange
namespace Go.Proofs.Ytfcndldobjpbnaa
open Go.RowKit Go.Maps
set_option linter.unusedVariables false

theorem pic4_in {w w' : World} {G : Prop} (h : PicB w' w.heap.size 44 0 0 none 0 0 → Keeps none' (w.alloc (.cells #[.int .i64 0, .int .i64 0, .slice none 0 0] 44)) w' → G) : Keeps none' (w.alloc (.cells #[.int .i64 0, .int .i64 0, .slice none 0 0] 44)) w' → G := by
  intro k
  have := PicB.new w 44 0 0 none 0 0
  exact h (PicB.later (w := w.alloc (.cells #[.int .i64 0, .int .i64 0, .slice none 0 0] 44)) this k) k
theorem pic4_in' {w w' : World} {G : Prop} (h : PicB w' w.heap.size 44 0 0 none 0 0 → Keeps none' (w.alloc (.cells #[.int .i64 0, .int .i64 0, .slice none 0 0] 44)).drew w' → G) : Keeps none' (w.alloc (.cells #[.int .i64 0, .int .i64 0, .slice none 0 0] 44)).drew w' → G := by
  intro k
  have := PicB.new w 44 0 0 none 0 0
  exact h (PicB.later (w := (w.alloc (.cells #[.int .i64 0, .int .i64 0, .slice none 0 0] 44)).drew) this k) k
theorem hold_alloc {wr w' : World} {B : Nat} {W H : Int} {a : Option Addr} {n c : Nat} (h : w'.cell? ⟨B, 0, none⟩ = some (.int .i64 W) ∧ w'.cell? ⟨B, 1, none⟩ = some (.int .i64 H) ∧ w'.cell? ⟨B, 2, none⟩ = some (.slice a n c) ∧ Keeps none' wr w') (o : Obj) :
    (w'.alloc o).cell? ⟨B, 0, none⟩ = some (.int .i64 W) ∧ (w'.alloc o).cell? ⟨B, 1, none⟩ = some (.int .i64 H) ∧ (w'.alloc o).cell? ⟨B, 2, none⟩ = some (.slice a n c) ∧ Keeps none' wr (w'.alloc o) :=
  ⟨((Keeps.refl none' w').alloc o).cell h.1, ((Keeps.refl none' w').alloc o).cell h.2.1, ((Keeps.refl none' w').alloc o).cell h.2.2.1, h.2.2.2.alloc o⟩
theorem hold_drew {wr w' : World} {B : Nat} {W H : Int} {a : Option Addr} {n c : Nat} (h : w'.cell? ⟨B, 0, none⟩ = some (.int .i64 W) ∧ w'.cell? ⟨B, 1, none⟩ = some (.int .i64 H) ∧ w'.cell? ⟨B, 2, none⟩ = some (.slice a n c) ∧ Keeps none' wr w') :
    w'.drew.cell? ⟨B, 0, none⟩ = some (.int .i64 W) ∧ w'.drew.cell? ⟨B, 1, none⟩ = some (.int .i64 H) ∧ w'.drew.cell? ⟨B, 2, none⟩ = some (.slice a n c) ∧ Keeps none' wr w'.drew :=
  ⟨h.1, h.2.1, h.2.2.1, h.2.2.2.drew⟩
theorem hold_set {wr wd w' : World} {B i : Nat} {W H : Int} {a : Option Addr} {n c : Nat} (kd : Keeps none' wr wd) (hB : B < wr.heap.size) (h : w'.cell? ⟨B, 0, none⟩ = some (.int .i64 W) ∧ w'.cell? ⟨B, 1, none⟩ = some (.int .i64 H) ∧ w'.cell? ⟨B, 2, none⟩ = some (.slice a n c) ∧ Keeps none' wr w') (v : Value) :
    (w'.setCell ⟨wd.heap.size, i, none⟩ v).cell? ⟨B, 0, none⟩ = some (.int .i64 W) ∧ (w'.setCell ⟨wd.heap.size, i, none⟩ v).cell? ⟨B, 1, none⟩ = some (.int .i64 H) ∧ (w'.setCell ⟨wd.heap.size, i, none⟩ v).cell? ⟨B, 2, none⟩ = some (.slice a n c) ∧ Keeps none' wr (w'.setCell ⟨wd.heap.size, i, none⟩ v) := by
  have hs := kd.size
  have k1 : Keeps (fun q => q = wd.heap.size) w' (w'.setCell ⟨wd.heap.size, i, none⟩ v) := (Keeps.refl (fun q => q = wd.heap.size) w').setCell (p := ⟨wd.heap.size, i, none⟩) (fun _ => rfl) v
  have hne : B ≠ wd.heap.size := by omega
  have hc : ∀ j, (w'.setCell ⟨wd.heap.size, i, none⟩ v).cell? ⟨B, j, none⟩ = w'.cell? ⟨B, j, none⟩ := fun j => World.cell?_of_block (Below.heap_setCell _ _ _ _ hne)
  exact ⟨(hc 0).trans h.1, (hc 1).trans h.2.1, (hc 2).trans h.2.2.1, h.2.2.2.setCell (fun e => by simp only at e; omega) _⟩
/-- What came in, and the picture that was seen last (block D). -/
structure Fin9 (w : World) (B D : Nat) (W H : Int) (a : Option Addr) (n c : Nat) (ap : Option Addr) (capp : Nat) (zs : List Int) (w' : World) : Prop where
  pic : PicB w' B 44 W H a n c
  res : PicB w' D 44 W H ap n capp
  px : Ints w' ap n zs
  keeps : Keeps none' w w'
theorem Fin9.mk1 {w w1 w2 : World} {B : Nat} {W H : Int} {a : Option Addr} {n c : Nat} {ap : Option Addr} {capp : Nat} {zs : List Int} (p : PicB w1 B 44 W H a n c) (k : Keeps none' w w1) (k2 : Keeps none' w1 w2) (i : Ints w2 ap n zs) :
    Fin9 w B w2.heap.size W H a n c ap capp zs (w2.alloc (.cells #[.int .i64 W, .int .i64 H, .slice ap n capp] 44)) :=
  ⟨(p.later k2).alloc _, PicB.new _ _ _ _ _ _ _, i.later ((Keeps.refl _ _).alloc _), (k.next k2).alloc _⟩
theorem Fin9.mk2 {w w1 w2 : World} {B D N : Nat} {W H : Int} {a : Option Addr} {n c : Nat} {ap : Option Addr} {capp : Nat} {zs : List Int} (p : PicB w1 B 44 W H a n c) (k : Keeps none' w w1) (k2 : Keeps none' w1 w2) (i : Ints w2 ap n zs)
    (hD : w1.heap.size ≤ D) (z : PicB w2 D 44 0 0 none 0 0) (hN : D < N) (far : ∀ b off, ap = some ⟨b, off, none⟩ → N ≤ b) :
    Fin9 w B D W H a n c ap capp zs (((w2.setCell ⟨D, 0, none⟩ (.int .i64 W)).setCell ⟨D, 1, none⟩ (.int .i64 H)).setCell ⟨D, 2, none⟩ (.slice ap n capp)) := by
  have h0 := k.size
  have h1 := p.lt
  have hne : B ≠ D := by omega
  refine ⟨(((p.later k2).set hne _).set hne _).set hne _, z.all _ _ _ _ _, ?_, ((((k.next k2)).setCell (fun e => by simp only at e; omega) _).setCell (fun e => by simp only at e; omega) _).setCell (fun e => by simp only at e; omega) _⟩
  have k3 : Keeps (fun q => q = D) w2 (((w2.setCell ⟨D, 0, none⟩ (.int .i64 W)).setCell ⟨D, 1, none⟩ (.int .i64 H)).setCell ⟨D, 2, none⟩ (.slice ap n capp)) := (((Keeps.refl (fun q => q = D) w2).setCell (p := ⟨D, 0, none⟩) (fun _ => rfl) (.int .i64 W)).setCell (p := ⟨D, 1, none⟩) (fun _ => rfl) (.int .i64 H)).setCell (p := ⟨D, 2, none⟩) (fun _ => rfl) (.slice ap n capp)
  refine i.keep k3 (fun b off e hb => ?_)
  have h2 := far b off e
  have h3 : b = D := hb
  omega
/-- The pixels seen, each as the walk's test wants it. -/
theorem moved_at {W H : Int} {zs : List Int} (hp : PicOk W H zs) (s : Bool) (x y : Int) {P : Nat} {k i : Nat} {v : Int} (hv : (Af.seenTo W H zs (Af.shift (-x) (-y)) s P k)[i]? = some v) :
    Af.picAt W H zs (((i % P : Nat) : Int) - x) (((i / P : Nat) : Int) - y) = v := by
  unfold Af.seenTo at hv
  rw [List.getElem?_map] at hv
  cases h : (List.range k)[i]? with
  | none => rw [h] at hv; cases hv
  | some j =>
    rw [h] at hv
    have hj : j = i := by
      have h2 := (List.getElem?_eq_some_iff.1 h).2
      simpa using h2.symm
    subst hj
    rw [← Option.some.inj hv]
    exact (Af.shift_seen hp s x y _ _).symm
set_option maxRecDepth 100000 in
set_option maxHeartbeats 6400000 in
theorem moves_start (W H : Int) (a : Option Addr) (n c : Nat) (zs : List Int) (x y : Int) (s : Bool) (w : World) (hz : Ints w a n zs) :
    Calls Try.prog 9 #[.agg #[.int .i64 W, .int .i64 H, .slice a n c], .int .i64 x, .int .i64 y, .bool s] w (Yes w) := by
  have P0 := Lib.hid (PicB.new w 44 W H a n c)
  have K0 := Lib.hid ((Keeps.refl none' w).alloc (.cells #[.int .i64 W, .int .i64 H, .slice a n c] 44))
  have Z := Lib.hid hz
  clear hz
  go_enter Try.func9, Try.ntmps9
  go_upto_region 1 with (fail)
  generalize w.alloc (.cells #[.int .i64 W, .int .i64 H, .slice a n c] 44) = w1 at *
  obtain ⟨B, hB⟩ : ∃ B, B = w.heap.size := ⟨_, rfl⟩
  rw [← hB] at P0
  rw [← hB]
  clear hB
  go_wp2_with fail
  refine (anchor_any _).mono ?_
  rintro e w2 ⟨rfl, hk⟩
  have P1 := Lib.hid (P0.out.later hk)
  have K1 := Lib.hid (K0.out.next hk)
  clear hk P0 K0
  have c0 := P1.out.c0
  have c1 := P1.out.c1
  have c2 := P1.out.c2
  by_cases g0 : (n : Int) > 1500
  · have t_g0 : decide ((n : Int) > 1500) = true := by simpa using g0
    clear g0
    go_wp2_with fail
    go_ret
    exact ⟨rfl, K1.out⟩
  have t_g0 : decide ((n : Int) > 1500) = false := by simpa using g0
  by_cases g1 : x < -40
  · have t_g1 : decide (x < -40) = true := by simpa using g1
    clear g0 g1
    go_wp2_with fail
    go_ret
    exact ⟨rfl, K1.out⟩
  have t_g1 : decide (x < -40) = false := by simpa using g1
  by_cases g2 : x > 40
  · have t_g2 : decide (x > 40) = true := by simpa using g2
    clear g0 g1 g2
    go_wp2_with fail
    go_ret
    exact ⟨rfl, K1.out⟩
  have t_g2 : decide (x > 40) = false := by simpa using g2
  by_cases g3 : y < -40
  · have t_g3 : decide (y < -40) = true := by simpa using g3
    clear g0 g1 g2 g3
    go_wp2_with fail
    go_ret
    exact ⟨rfl, K1.out⟩
  have t_g3 : decide (y < -40) = false := by simpa using g3
  by_cases g4 : y > 40
  · have t_g4 : decide (y > 40) = true := by simpa using g4
    clear g0 g1 g2 g3 g4
    go_wp2_with fail
    go_ret
    exact ⟨rfl, K1.out⟩
  have t_g4 : decide (y > 40) = false := by simpa using g4
  have G1 := Lib.hid (show n ≤ 1500 ∧ (-40 ≤ x ∧ x ≤ 40) ∧ (-40 ≤ y ∧ y ≤ 40) from ⟨by omega, ⟨by omega, by omega⟩, by omega, by omega⟩)
  clear g0 g1 g2 g3 g4
  go_wp2_with fail
  refine (plain_any _ _ _ _ _ _).mono ?_
  rintro e w3 ⟨rfl, hk⟩
  have P2 := Lib.hid (P1.out.later hk)
  have K2 := Lib.hid (K1.out.next hk)
  clear hk P1 K1 c0 c1 c2
  have c0 := P2.out.c0
  have c1 := P2.out.c1
  have c2 := P2.out.c2
  by_cases hp : PicOk W H zs
  · have RT := Lib.hid (docPic_any W H a n c zs w3 (Z.out.later K2.out) (by have := G1.out.1; omega) true (by simp [hp]))
    have HP := Lib.hid hp
    clear hp
    go_wp2_with fail
    refine RT.out.mono ?_
    rintro e w4 ⟨rfl, hk⟩
    have P3 := Lib.hid (P2.out.later hk)
    have K3 := Lib.hid (K2.out.next hk)
    clear hk P2 K2 c0 c1 c2 RT
    have c0 := P3.out.c0
    have c1 := P3.out.c1
    have c2 := P3.out.c2
    by_cases g1 : W > 60
    · have t1 : decide (W > 60) = true := by simpa using g1
      clear g1
      go_wp2_with fail
      go_ret
      exact ⟨rfl, K3.out⟩
    have t1 : decide (W > 60) = false := by simpa using g1
    by_cases g2 : H > 60
    · have t2 : decide (H > 60) = true := by simpa using g2
      clear g1 g2
      go_wp2_with fail
      go_ret
      exact ⟨rfl, K3.out⟩
    have t2 : decide (H > 60) = false := by simpa using g2
    obtain ⟨p, rfl⟩ : ∃ p : Nat, W = p := ⟨W.toNat, by have := HP.out.1.1; omega⟩
    obtain ⟨q, rfl⟩ : ∃ q : Nat, H = q := ⟨H.toNat, by have := HP.out.2.1.1; omega⟩
    have hp : p ≤ 60 := by omega
    have hq : q ≤ 60 := by omega
    clear g1 g2
    go_upto_region 5 with (fail)
    obtain ⟨k, hkk⟩ : ∃ k : Nat, (p + 9) * (q + 9) = k := ⟨_, rfl⟩
    have hk0 : k ≤ 4761 := by
      rw [← hkk]
      exact Nat.mul_le_mul (show p + 9 ≤ 69 by omega) (show q + 9 ≤ 69 by omega)
    have hki : ((p : Int) + 9) * ((q : Int) + 9) = (k : Int) := by rw [← hkk]; push_cast; rfl
    obtain ⟨P, hP⟩ : ∃ P : Nat, P = p + 9 := ⟨_, rfl⟩
    have hPi : (p : Int) + 9 = (P : Int) := by rw [hP]; push_cast; rfl
    obtain ⟨xs, hxs⟩ : ∃ xs, Af.seenTo p q zs (Af.shift (-x) (-y)) s P k = xs := ⟨_, rfl⟩
    have S1 : ∀ w', Ints w' a n zs → Calls Try.prog 22 #[.agg #[.int .i64 p, .int .i64 q, .slice a n c], .agg #[.int .i64 65536, .int .i64 0, .int .i64 0, .int .i64 65536, .int .i64 (65536 * x), .int .i64 (65536 * y)], .int .i64 (P : Int), .int .i64 ((q : Int) + 9), .bool s] w' (SeeFar P ((q : Int) + 9) k xs w') := fun w' hz => by
      have h1 := seeP_far p q a n c zs (Af.shift x y) ((p : Int) + 9) ((q : Int) + 9) s w' (by rw [Af.shift_back G1.out.2.1 G1.out.2.2]) ⟨⟨by omega, by omega⟩, ⟨by omega, by omega⟩, by rw [hki]; omega⟩ hz (by have := G1.out.1; omega) HP.out
      rw [Af.shift_back G1.out.2.1 G1.out.2.2] at h1
      have e1 : ((p : Int) + 9).toNat = P := by omega
      have e2 : ((p : Int) + 9).toNat * ((q : Int) + 9).toNat = k := by rw [show ((p : Int) + 9).toNat = p + 9 by omega, show ((q : Int) + 9).toNat = q + 9 by omega]; exact hkk
      rw [e2, e1, hPi, hxs] at h1
      exact h1
    have S := Lib.hid S1
    have MV := Lib.hid (fun i v (hv : xs[i]? = some v) => moved_at HP.out s x y (P := P) (k := k) (by rw [hxs]; exact hv))
    have wx : IntKind.i64.wrap (65536 * x) = 65536 * x := wrap_i64 _ (by have := G1.out; omega) (by have := G1.out; omega)
    have wy : IntKind.i64.wrap (65536 * y) = 65536 * y := wrap_i64 _ (by have := G1.out; omega) (by have := G1.out; omega)
    have wp : IntKind.i64.wrap ((p : Int) + 9) = (P : Int) := by rw [hPi]; exact wrap_i64 _ (by omega) (by omega)
    have wq : IntKind.i64.wrap ((q : Int) + 9) = (q : Int) + 9 := wrap_i64 _ (by omega) (by omega)
    have HK := Lib.hid (And.intro hk0 (And.intro hP (And.intro hp (And.intro hq (And.intro hki hPi)))))
    clear S1 t1 t2 hxs hkk hki hk0 hP hPi hp hq
    go_wp2_with fail
    refine (S.out _ (Z.out.later K3.out)).mono ?_
    rintro e w5 ⟨aq, capq, rfl, hi, hk, hf⟩
    have P4 := Lib.hid (P3.out.later hk)
    have K4 := Lib.hid (K3.out.next hk)
    have I4 := Lib.hid hi
    clear hi hk hf P3 K3 S c0 c1 c2 wx wy
    go_upto_region 6 with (fail)
    have A5 := Lib.hid (PicB.new w5 44 (P : Int) ((q : Int) + 9) aq k capq)
    have P5 := Lib.hid (P4.out.alloc (.cells #[.int .i64 (P : Int), .int .i64 ((q : Int) + 9), .slice aq k capq] 44))
    have K5 := Lib.hid (K4.out.alloc (.cells #[.int .i64 (P : Int), .int .i64 ((q : Int) + 9), .slice aq k capq] 44))
    have I5 := Lib.hid (I4.out.later ((Keeps.refl none' w5).alloc (.cells #[.int .i64 (P : Int), .int .i64 ((q : Int) + 9), .slice aq k capq] 44)))
    generalize w5.alloc (.cells #[.int .i64 (P : Int), .int .i64 ((q : Int) + 9), .slice aq k capq] 44) = w6 at *
    generalize w5.heap.size = A at *
    clear P4 K4 I4
    have c0 := P5.out.c0
    have c1 := P5.out.c1
    have c2 := P5.out.c2
    have a0 := A5.out.c0
    have a1 := A5.out.c1
    have a2 := A5.out.c2
    have wk : IntKind.i64.wrap ((P : Int) * ((q : Int) + 9)) = (k : Int) := by
      have h := HK.out
      rw [← h.2.2.2.2.2, h.2.2.2.2.1]
      exact wrap_i64 _ (by omega) (by omega)
    go_upto_region 8 with (fail)
    clear wk c0 c1 c2 wq wp
    go_wp2_with fail
    clear a0 a1 a2
    go_loopw [96] (fun cnt wi => ∃ i : Nat, i ≤ k ∧ cnt = .int .i64 i ∧ PicB wi B 44 p q a n c ∧ PicB wi A 44 (P : Int) ((q : Int) + 9) aq k capq ∧ Ints wi aq k xs ∧ Keeps none' w wi) (fun cnt _ => k - (intOf cnt).toNat)
    case atStart => exact ⟨0, Nat.zero_le _, rfl, P5.out, A5.out, I5.out, K5.out⟩
    case round =>
      clear P5 A5 I5 K5
      obtain ⟨i, hi, rfl, h1, h2, h3, h4⟩ := hrel
      have PB := Lib.hid h1
      have PA := Lib.hid h2
      have IX := Lib.hid h3
      have KW := Lib.hid h4
      clear h1 h2 h3 h4
      by_cases hlt : i < k
      · obtain ⟨bb, off, v, rfl, hv, hfit, hc⟩ := IX.out.at hlt
        have HV := Lib.hid (MV.out i v hv)
        have hb := HK.out
        have hPp : 9 ≤ P := by omega
        have hk0 : k ≤ 4761 := hb.1
        have l1 : i % P < P := Nat.mod_lt _ (by omega)
        have l2 : i / P ≤ i := Nat.div_le_self _ _
        have gx := G1.out.2.1
        have gy := G1.out.2.2
        have l3 := Int.natCast_nonneg (i / P)
        have l4 := Int.natCast_nonneg (i % P)
        obtain ⟨r, hr⟩ : ∃ r : Nat, i % P = r := ⟨_, rfl⟩
        obtain ⟨t, ht⟩ : ∃ t : Nat, i / P = t := ⟨_, rfl⟩
        rw [hr] at l1 l4
        rw [ht] at l2 l3
        have DA := Lib.hid (fun w' (hz : Ints w' a n zs) => docAt_any p q a n c zs ((r : Int) - x) ((t : Int) - y) w' hz HP.out ⟨by omega, by omega⟩ ⟨by omega, by omega⟩)
        rw [hr, ht] at HV
        rw [HV.out] at DA
        have hrem : IntKind.i64.wrap (((i : Int)).tmod (P : Int)) = (r : Int) := by rw [show ((i : Int)).tmod (P : Int) = ((i % P : Nat) : Int) from rfl, hr]; exact wrap_i64 _ (by omega) (by omega)
        have hquo : IntKind.i64.wrap (((i : Int)).tdiv (P : Int)) = (t : Int) := by rw [show ((i : Int)).tdiv (P : Int) = ((i / P : Nat) : Int) from rfl, ht]; exact wrap_i64 _ (by omega) (by omega)
        have hrem2 : ((i : Int)).tmod (P : Int) = (r : Int) := by rw [show ((i : Int)).tmod (P : Int) = ((i % P : Nat) : Int) from rfl, hr]
        have hquo2 : ((i : Int)).tdiv (P : Int) = (t : Int) := by rw [show ((i : Int)).tdiv (P : Int) = ((i / P : Nat) : Int) from rfl, ht]
        have wr1 : IntKind.i64.wrap ((r : Int) - x) = (r : Int) - x := wrap_i64 _ (by omega) (by omega)
        have wt1 : IntKind.i64.wrap ((t : Int) - y) = (t : Int) - y := wrap_i64 _ (by omega) (by omega)
        have wr0 : IntKind.i64.wrap (r : Int) = (r : Int) := wrap_i64 _ (by omega) (by omega)
        have wt0 : IntKind.i64.wrap (t : Int) = (t : Int) := wrap_i64 _ (by omega) (by omega)
        have pz : ¬ ((P : Int) = 0) := by omega
        have pz2 : ((P : Int) == 0) = false := by simp; omega
        have pn : ¬ P = 0 := by omega
        have nv : (v == v) = true := by simp
        have nv2 : (v != v) = false := by simp
        have hii : (i : Int) < k := by omega
        clear hv hfit l1 l2 l3 l4 gx gy hb hr ht HV
        go_upto_region 11 with (fail)
        have e0 := PB.out.c0
        have e1 := PB.out.c1
        have e2 := PB.out.c2
        have e3 := PA.out.c0
        have OW := Lib.hid (Keeps.refl none' wr)
        have OD := Lib.hid ((Keeps.refl none' wr).drew)
        have C1 : ∀ w', (w'.cell? ⟨B, 0, none⟩ = some (.int .i64 (p : Int)) ∧ w'.cell? ⟨B, 1, none⟩ = some (.int .i64 (q : Int)) ∧ w'.cell? ⟨B, 2, none⟩ = some (.slice a n c) ∧ w'.cell? ⟨A, 0, none⟩ = some (.int .i64 (P : Int)) ∧ Keeps none' wr w') → Calls Try.prog 24 #[.agg #[.int .i64 p, .int .i64 q, .slice a n c]] w' fun e w'' => e = .returned (.agg #[.int .i64 p, .int .i64 q, .slice a n c]) ∧ (w''.cell? ⟨B, 0, none⟩ = some (.int .i64 (p : Int)) ∧ w''.cell? ⟨B, 1, none⟩ = some (.int .i64 (q : Int)) ∧ w''.cell? ⟨B, 2, none⟩ = some (.slice a n c) ∧ w''.cell? ⟨A, 0, none⟩ = some (.int .i64 (P : Int)) ∧ Keeps none' wr w'') := by
          rintro w' ⟨h0, h1, h2, h3, h4⟩
          refine (plain_any _ _ _ _ _ w').mono ?_
          rintro e w'' ⟨h, kx⟩
          exact ⟨h, kx.cell h0, kx.cell h1, kx.cell h2, kx.cell h3, h4.next kx⟩
        have C2 : ∀ w', (w'.cell? ⟨B, 0, none⟩ = some (.int .i64 (p : Int)) ∧ w'.cell? ⟨B, 1, none⟩ = some (.int .i64 (q : Int)) ∧ w'.cell? ⟨B, 2, none⟩ = some (.slice a n c) ∧ w'.cell? ⟨A, 0, none⟩ = some (.int .i64 (P : Int)) ∧ Keeps none' wr w') → Calls Try.prog 29 #[.agg #[.int .i64 p, .int .i64 q, .slice a n c], .int .i64 ((r : Int) - x), .int .i64 ((t : Int) - y)] w' fun e w'' => e = .returned (.int .i64 v) ∧ (w''.cell? ⟨B, 0, none⟩ = some (.int .i64 (p : Int)) ∧ w''.cell? ⟨B, 1, none⟩ = some (.int .i64 (q : Int)) ∧ w''.cell? ⟨B, 2, none⟩ = some (.slice a n c) ∧ w''.cell? ⟨A, 0, none⟩ = some (.int .i64 (P : Int)) ∧ Keeps none' wr w'') := by
          rintro w' ⟨h0, h1, h2, h3, h4⟩
          refine (DA.out w' (Z.out.later (KW.out.next h4))).mono ?_
          rintro e w'' ⟨h, kx⟩
          exact ⟨h, kx.cell h0, kx.cell h1, kx.cell h2, kx.cell h3, h4.next kx⟩
        have CALL1 := Lib.hid C1
        have CALL2 := Lib.hid C2
        clear C1 C2 DA
        go_region_held3 (fun w' => (w'.cell? ⟨B, 0, none⟩ = some (.int .i64 (p : Int)) ∧ w'.cell? ⟨B, 1, none⟩ = some (.int .i64 (q : Int)) ∧ w'.cell? ⟨B, 2, none⟩ = some (.slice a n c) ∧ w'.cell? ⟨A, 0, none⟩ = some (.int .i64 (P : Int)) ∧ Keeps none' wr w')) (first | (with_reducible exact ⟨e0, e1, e2, e3, OW.out⟩) | (with_reducible exact ⟨e0, e1, e2, e3, OD.out⟩) | (refine ⟨‹_›, ‹_›, ‹_›, ‹_›, ‹_›⟩) | go_keep)
          (first | (go_at_call 24; refine (CALL1.out _ ⟨‹_›, ‹_›, ‹_›, ‹_›, ‹_›⟩).mono ?_; rintro e w' ⟨rfl, k0, k1, k2, k3, k4⟩) | (go_at_call 29; refine (CALL2.out _ ⟨‹_›, ‹_›, ‹_›, ‹_›, ‹_›⟩).mono ?_; rintro e w' ⟨rfl, k0, k1, k2, k3, k4⟩))
        all_goals
          have PB2 := Lib.hid (PB.out.later k4)
          have PA2 := Lib.hid (PA.out.later k4)
          have IX2 := Lib.hid (IX.out.later k4)
          have KW2 := Lib.hid (KW.out.next k4)
          clear CALL1 CALL2 e0 e1 e2 e3 OW OD PB PA IX KW hrem hquo hrem2 hquo2 wr1 wt1 wr0 wt0
          go_wp2_with fail
          go_roundw
          case rel => exact ⟨i + 1, by omega, by go_num, PB2.out, PA2.out, IX2.out, KW2.out⟩
          case measure => simp [intOf]; omega
      · obtain rfl : i = k := by omega
        have t8 : decide (i < i) = false := by simp
        have hnn : n = p * q := by
          have h1 := HP.out.2.2.1
          have h2 := Z.out.1
          rw [← h2]
          exact_mod_cast h1
        have SR1 : ∀ w', Ints w' a n zs → Calls Try.prog 22 #[.agg #[.int .i64 p, .int .i64 q, .slice a n c], .agg #[.int .i64 65536, .int .i64 0, .int .i64 0, .int .i64 65536, .int .i64 0, .int .i64 0], .int .i64 (p : Int), .int .i64 (q : Int), .bool s] w' (SeeFar p q n zs w') := fun w' hz => by
          have hb := HK.out
          have h1 := seeP_far p q a n c zs (Af.shift 0 0) (p : Int) (q : Int) s w' (by rw [Af.shift_back (by omega) (by omega)]) ⟨⟨by omega, by omega⟩, ⟨by omega, by omega⟩, by have := HP.out.2.2.1; have := Z.out.1; have := G1.out.1; omega⟩ hz (by have := G1.out.1; omega) HP.out
          rw [Af.shift_back (by omega) (by omega), show Af.shift (-0) (-0) = Af.shift 0 0 from rfl, Af.seenTo_same HP.out, Int.toNat_natCast, Int.toNat_natCast, ← hnn] at h1
          exact h1
        go_upto_region 14 with (fail)
        have e0 := PB.out.c0
        have e1 := PB.out.c1
        have e2 := PB.out.c2
        have eL := PB.out.lt
        have OW := Lib.hid (Keeps.refl none' wr)
        have OD := Lib.hid ((Keeps.refl none' wr).drew)
        have C1 : ∀ w', (w'.cell? ⟨B, 0, none⟩ = some (.int .i64 (p : Int)) ∧ w'.cell? ⟨B, 1, none⟩ = some (.int .i64 (q : Int)) ∧ w'.cell? ⟨B, 2, none⟩ = some (.slice a n c) ∧ Keeps none' wr w') → Calls Try.prog 17 #[] w' fun e w'' => e = .returned (.agg #[.int .i64 65536, .int .i64 0, .int .i64 0, .int .i64 65536, .int .i64 0, .int .i64 0]) ∧ ((w''.cell? ⟨B, 0, none⟩ = some (.int .i64 (p : Int)) ∧ w''.cell? ⟨B, 1, none⟩ = some (.int .i64 (q : Int)) ∧ w''.cell? ⟨B, 2, none⟩ = some (.slice a n c) ∧ Keeps none' wr w'')) ∧ Keeps none' w' w'' := by
          rintro w' ⟨h0, h1, h2, h4⟩
          refine (one_any w').mono ?_
          rintro e w'' ⟨h, kx⟩
          exact ⟨h, ⟨kx.cell h0, kx.cell h1, kx.cell h2, h4.next kx⟩, kx⟩
        have C2 : ∀ w', (w'.cell? ⟨B, 0, none⟩ = some (.int .i64 (p : Int)) ∧ w'.cell? ⟨B, 1, none⟩ = some (.int .i64 (q : Int)) ∧ w'.cell? ⟨B, 2, none⟩ = some (.slice a n c) ∧ Keeps none' wr w') → Calls Try.prog 22 #[.agg #[.int .i64 p, .int .i64 q, .slice a n c], .agg #[.int .i64 65536, .int .i64 0, .int .i64 0, .int .i64 65536, .int .i64 0, .int .i64 0], .int .i64 (p : Int), .int .i64 (q : Int), .bool s] w' fun e w'' => ∃ ap capp, e = .returned (.tuple #[.agg #[.int .i64 p, .int .i64 q, .slice ap n capp], .int .i64 0]) ∧ ((w''.cell? ⟨B, 0, none⟩ = some (.int .i64 (p : Int)) ∧ w''.cell? ⟨B, 1, none⟩ = some (.int .i64 (q : Int)) ∧ w''.cell? ⟨B, 2, none⟩ = some (.slice a n c) ∧ Keeps none' wr w'')) ∧ Keeps none' w' w'' ∧ Ints w'' ap n zs ∧ ∀ b off, ap = some ⟨b, off, none⟩ → w'.heap.size ≤ b := by
          rintro w' ⟨h0, h1, h2, h4⟩
          refine (SR1 w' (Z.out.later (KW.out.next h4))).mono ?_
          rintro e w'' ⟨ap, capp, h, hi, kx, hf⟩
          exact ⟨ap, capp, h, ⟨kx.cell h0, kx.cell h1, kx.cell h2, h4.next kx⟩, kx, hi, hf⟩
        have CALL1 := Lib.hid C1
        have CALL2 := Lib.hid C2
        clear C1 C2 SR1 hnn
        go_region_held3 (fun w' => (w'.cell? ⟨B, 0, none⟩ = some (.int .i64 (p : Int)) ∧ w'.cell? ⟨B, 1, none⟩ = some (.int .i64 (q : Int)) ∧ w'.cell? ⟨B, 2, none⟩ = some (.slice a n c) ∧ Keeps none' wr w')) (first | (with_reducible exact ⟨e0, e1, e2, OW.out⟩) | (with_reducible exact hold_drew ⟨e0, e1, e2, OW.out⟩) | (with_reducible refine ⟨‹_›, ‹_›, ‹_›, ‹_›⟩) | (with_reducible exact hold_alloc (hold_drew ⟨e0, e1, e2, OW.out⟩) _) | (with_reducible exact hold_drew (hold_alloc ⟨e0, e1, e2, OW.out⟩ _)) | (with_reducible exact hold_alloc ⟨e0, e1, e2, OW.out⟩ _) | (with_reducible refine hold_alloc ⟨‹_›, ‹_›, ‹_›, ‹_›⟩ _) | (with_reducible refine hold_set ‹_› eL (hold_set ‹_› eL (hold_set ‹_› eL ⟨‹_›, ‹_›, ‹_›, ‹_›⟩ _) _) _) | (with_reducible refine hold_set OW.out eL (hold_set OW.out eL (hold_set OW.out eL ⟨‹_›, ‹_›, ‹_›, ‹_›⟩ _) _) _) | go_keep)
          (first
            | (go_at_call 17; refine (CALL1.out _ (by first | assumption | (with_reducible exact hold_drew ⟨e0, e1, e2, OW.out⟩) | exact ⟨‹_›, ‹_›, ‹_›, ‹_›⟩)).mono ?_; rintro e w7 ⟨rfl, ⟨k0, k1, k2, k4⟩, hk⟩; (first | (revert hk; (with_reducible refine pic4_in' ?_); intro ZB hk) | (revert hk; (with_reducible refine pic4_in ?_); intro ZB hk) | skip))
            | (go_at_call 22; refine (CALL2.out _ (by first | assumption | (with_reducible exact hold_drew ⟨e0, e1, e2, OW.out⟩) | exact ⟨‹_›, ‹_›, ‹_›, ‹_›⟩)).mono ?_; rintro e w9 ⟨ap, capp, rfl, ⟨j0, j1, j2, j4⟩, hk9, hi9, hf9⟩; (first | (revert hk9; (with_reducible refine pic4_in' ?_); intro ZB hk9; have zc0 := ZB.c0; have zc1 := ZB.c1; have zc2 := ZB.c2; have zf0 := ZB.fr (i := 0); have zf1 := ZB.fr (i := 1); have zf2 := ZB.fr (i := 2)) | (revert hk9; (with_reducible refine pic4_in ?_); intro ZB hk9; have zc0 := ZB.c0; have zc1 := ZB.c1; have zc2 := ZB.c2; have zf0 := ZB.fr (i := 0); have zf1 := ZB.fr (i := 1); have zf2 := ZB.fr (i := 2)) | ((with_reducible have ZB := PicB.later ZB hk9); have zc0 := ZB.c0; have zc1 := ZB.c1; have zc2 := ZB.c2; have zf0 := ZB.fr (i := 0); have zf1 := ZB.fr (i := 1); have zf2 := ZB.fr (i := 2)) | skip)))
        · have X := Lib.hid (Fin9.mk1 (capp := capp) PB.out KW.out j4 hi9)
          clear CALL1 CALL2
          rename_i hHeld
          clear hHeld
          generalize w9.alloc (.cells #[.int .i64 (p : Int), .int .i64 (q : Int), .slice ap n capp] 44) = wf at *
          generalize w9.heap.size = D at *
          have u2 := X.out.res.c2
          have b2 := X.out.pic.c2
          have SM := Lib.hid (same_yes ap a n capp c zs wf (by have := G1.out.1; omega) X.out.px (Z.out.later X.out.keeps))
          clear e0 e1 e2
          go_wp2_with fail
          refine SM.out.mono ?_
          rintro e wg ⟨rfl, rfl⟩
          go_wp2_with fail
          go_ret
          exact ⟨rfl, X.out.keeps⟩
        · have X := Lib.hid (Fin9.mk2 (capp := capp) PB.out KW.out j4 hi9 k4.size ZB (Nat.lt_succ_self _) (fun b off e => by have := hf9 b off e; simp at this; omega))
          clear CALL1 CALL2
          rename_i hHeld
          clear hHeld
          generalize (((w9.setCell ⟨w7.heap.size, 0, none⟩ (.int .i64 (p : Int))).setCell ⟨w7.heap.size, 1, none⟩ (.int .i64 (q : Int))).setCell ⟨w7.heap.size, 2, none⟩ (.slice ap n capp)) = wf at *
          generalize w7.heap.size = D at *
          have u2 := X.out.res.c2
          have b2 := X.out.pic.c2
          have SM := Lib.hid (same_yes ap a n capp c zs wf (by have := G1.out.1; omega) X.out.px (Z.out.later X.out.keeps))
          clear e0 e1 e2
          go_wp2_with fail
          refine SM.out.mono ?_
          rintro e wg ⟨rfl, rfl⟩
          go_wp2_with fail
          go_ret
          exact ⟨rfl, X.out.keeps⟩
        · have X := Lib.hid (Fin9.mk2 (capp := capp) PB.out KW.out j4 hi9 (Nat.le_refl _) ZB (by have := PicB.lt ‹PicB w7 wr.heap.size 44 0 0 none 0 0›; exact this) hf9)
          clear CALL1 CALL2
          rename_i hHeld
          clear hHeld
          generalize (((w9.setCell ⟨wr.heap.size, 0, none⟩ (.int .i64 (p : Int))).setCell ⟨wr.heap.size, 1, none⟩ (.int .i64 (q : Int))).setCell ⟨wr.heap.size, 2, none⟩ (.slice ap n capp)) = wf at *
          generalize wr.heap.size = D at *
          have u2 := X.out.res.c2
          have b2 := X.out.pic.c2
          have SM := Lib.hid (same_yes ap a n capp c zs wf (by have := G1.out.1; omega) X.out.px (Z.out.later X.out.keeps))
          clear e0 e1 e2
          go_wp2_with fail
          refine SM.out.mono ?_
          rintro e wg ⟨rfl, rfl⟩
          go_wp2_with fail
          go_ret
          exact ⟨rfl, X.out.keeps⟩
  · have RT := Lib.hid (docPic_any W H a n c zs w3 (Z.out.later K2.out) (by have := G1.out.1; omega) false (by simp [hp]))
    clear hp
    go_wp2_with fail
    refine RT.out.mono ?_
    rintro e w4 ⟨rfl, hk⟩
    have K3 := Lib.hid (K2.out.next hk)
    clear hk P2 K2 c0 c1 c2 RT
    go_wp2_with fail
    go_ret
    exact ⟨rfl, K3.out⟩
theorem moves_walk (W H : Int) (a : Option Addr) (n c : Nat) (zs : List Int) (x y : Int) (s : Bool) (w : World) (hW : -9223372036854775808 ≤ W ∧ W ≤ 9223372036854775807) (hH : -9223372036854775808 ≤ H ∧ H ≤ 9223372036854775807) (hn : n ≤ c) (hz : Ints w a n zs)
    (h1 : -9223372036854775808 ≤ x ∧ x ≤ 9223372036854775807) (h2 : -9223372036854775808 ≤ y ∧ y ≤ 9223372036854775807) :
    Calls Try.prog 9 #[.agg #[.int .i64 W, .int .i64 H, .slice a n c], .int .i64 x, .int .i64 y, .bool s] w (Yes w) := moves_start W H a n c zs x y s w hz
end Go.Proofs.Ytfcndldobjpbnaa
