/- AffineSees: the walk. (printed by genLS.py) -/
import Derived.Test.YtfcndldobjpbnaaLSB
import Derived.Deep.CutRange
namespace Go.Proofs.Ytfcndldobjpbnaa
open Go.RowKit Go.Maps
set_option linter.unusedVariables false

theorem own_new0 (w : World) : (w.alloc (.cells #[] 3)).ownsRow w.heap.size 3 1 (.slice (some ⟨w.heap.size, 0, none⟩) 0 0) 0 (vals []) :=
  ⟨rfl, .inr ⟨w.heap.size, 0, #[], rfl, Nat.le_refl _, heap_alloc_new _ _, Nat.le_refl _, Nat.zero_le _, rfl, rfl⟩⟩
/-- What lies in memory: the picture and the map that came in, the pixels, their copy. -/
structure Given (w : World) (B : Nat) (W H : Int) (a : Option Addr) (n c : Nat) (zs : List Int) (m : Af.M) (aa : Option Addr) (w' : World) : Prop where
  pic : PicB w' B 44 W H a n c
  map : Six w' (B + 1) 23 m
  old : Ints w' a n zs
  new : Ints w' aa n zs
  keeps : Keeps none' w w'
theorem Given.later {w w1 w2 : World} {B : Nat} {W H : Int} {a : Option Addr} {n c : Nat} {zs : List Int} {m : Af.M} {aa : Option Addr} (h : Given w B W H a n c zs m aa w1) (k : Keeps none' w1 w2) : Given w B W H a n c zs m aa w2 :=
  ⟨h.pic.later k, h.map.later k, h.old.later k, h.new.later k, h.keeps.next k⟩
theorem Given.mk1 {w w2 w3 : World} {B : Nat} {W H : Int} {a : Option Addr} {n c cap : Nat} {zs : List Int} {m : Af.M} {aa : Option Addr} (p : PicB w2 B 44 W H a n c) (f : Six w2 (B + 1) 23 m) (z : Ints w a n zs) (k : Keeps none' w w2)
    (ho : w3.ownsRow w2.heap.size 3 1 (.slice aa n cap) n (vals zs)) (hg : (w2.alloc (.cells #[] 3)).grownBy w3 (some w2.heap.size)) : Given w B W H a n c zs m aa w3 := by
  have k2 : Keeps none' w2 w3 := ((Keeps.refl none' w2).alloc (.cells #[] 3)).grown hg (fun q hq e => by cases e; omega)
  exact ⟨p.later k2, f.later k2, (z.later k).later k2, (own_ints ho z.2.1).1, k.next k2⟩
/-- And the picture that was seen. -/
structure Sawn (w : World) (B A : Nat) (W H : Int) (a : Option Addr) (n c : Nat) (zs : List Int) (m : Af.M) (aa : Option Addr) (x y : Int) (aq : Option Addr) (k capq : Nat) (xs : List Int) (w' : World) : Prop where
  given : Given w B W H a n c zs m aa w'
  pic : PicB w' A 44 x y aq k capq
  px : Ints w' aq k xs
theorem Sawn.later {w w1 w2 : World} {B A : Nat} {W H : Int} {a : Option Addr} {n c : Nat} {zs : List Int} {m : Af.M} {aa : Option Addr} {x y : Int} {aq : Option Addr} {k capq : Nat} {xs : List Int} (h : Sawn w B A W H a n c zs m aa x y aq k capq xs w1) (kk : Keeps none' w1 w2) : Sawn w B A W H a n c zs m aa x y aq k capq xs w2 :=
  ⟨h.given.later kk, h.pic.later kk, h.px.later kk⟩
theorem Sawn.mk1 {w w1 : World} {B : Nat} {W H : Int} {a : Option Addr} {n c : Nat} {zs : List Int} {m : Af.M} {aa : Option Addr} {x y : Int} {aq : Option Addr} {k capq : Nat} {xs : List Int} (h : Given w B W H a n c zs m aa w1) (i : Ints w1 aq k xs) : Sawn w B w1.heap.size W H a n c zs m aa x y aq k capq xs (w1.alloc (.cells #[.int .i64 x, .int .i64 y, .slice aq k capq] 44)) :=
  ⟨h.later ((Keeps.refl _ _).alloc _), PicB.new _ _ _ _ _ _ _, i.later ((Keeps.refl _ _).alloc _)⟩
/-- And the document's. -/
structure Both7 (w : World) (B A D : Nat) (W H : Int) (a : Option Addr) (n c : Nat) (zs : List Int) (m : Af.M) (aa : Option Addr) (x y : Int) (aq : Option Addr) (k capq : Nat) (xs : List Int) (ap : Option Addr) (capp : Nat) (w' : World) : Prop where
  sawn : Sawn w B A W H a n c zs m aa x y aq k capq xs w'
  doc : PicB w' D 47 x y ap k capp
  dx : Ints w' ap k xs
theorem Both7.later {w w1 w2 : World} {B A D : Nat} {W H : Int} {a : Option Addr} {n c : Nat} {zs : List Int} {m : Af.M} {aa : Option Addr} {x y : Int} {aq : Option Addr} {k capq : Nat} {xs : List Int} {ap : Option Addr} {capp : Nat} (h : Both7 w B A D W H a n c zs m aa x y aq k capq xs ap capp w1) (kk : Keeps none' w1 w2) : Both7 w B A D W H a n c zs m aa x y aq k capq xs ap capp w2 :=
  ⟨h.sawn.later kk, h.doc.later kk, h.dx.later kk⟩
theorem Both7.mk1 {w w1 : World} {B A : Nat} {W H : Int} {a : Option Addr} {n c : Nat} {zs : List Int} {m : Af.M} {aa : Option Addr} {x y : Int} {aq : Option Addr} {k capq : Nat} {xs : List Int} {ap : Option Addr} {capp : Nat} (h : Sawn w B A W H a n c zs m aa x y aq k capq xs w1) (i : Ints w1 ap k xs) : Both7 w B A w1.heap.size W H a n c zs m aa x y aq k capq xs ap capp (w1.alloc (.cells #[.int .i64 x, .int .i64 y, .slice ap k capp] 47)) :=
  ⟨h.later ((Keeps.refl _ _).alloc _), PicB.new _ _ _ _ _ _ _, i.later ((Keeps.refl _ _).alloc _)⟩
theorem Both7.mk2 {w w1 w9 : World} {B A D N : Nat} {W H : Int} {a : Option Addr} {n c : Nat} {zs : List Int} {m : Af.M} {aa : Option Addr} {x y : Int} {aq : Option Addr} {k capq : Nat} {xs : List Int} {ap : Option Addr} {capp : Nat} (h : Sawn w B A W H a n c zs m aa x y aq k capq xs w1) (hD : w1.heap.size ≤ D) (kk : Keeps none' w1 w9) (z : PicB w9 D 47 0 0 none 0 0)
    (i : Ints w9 ap k xs) (hN : D < N) (far : ∀ b off, ap = some ⟨b, off, none⟩ → N ≤ b) : Both7 w B A D W H a n c zs m aa x y aq k capq xs ap capp (((w9.setCell ⟨D, 0, none⟩ (.int .i64 x)).setCell ⟨D, 1, none⟩ (.int .i64 y)).setCell ⟨D, 2, none⟩ (.slice ap k capp)) := by
  refine ⟨h.later (((kk.setCell (fun e => by simp only at e; omega) _).setCell (fun e => by simp only at e; omega) _).setCell (fun e => by simp only at e; omega) _), z.all _ _ _ _ _, ?_⟩
  have k3 : Keeps (fun q => q = D) w9 (((w9.setCell ⟨D, 0, none⟩ (.int .i64 x)).setCell ⟨D, 1, none⟩ (.int .i64 y)).setCell ⟨D, 2, none⟩ (.slice ap k capp)) := (((Keeps.refl (fun q => q = D) w9).setCell (p := ⟨D, 0, none⟩) (fun _ => rfl) (.int .i64 x)).setCell (p := ⟨D, 1, none⟩) (fun _ => rfl) (.int .i64 y)).setCell (p := ⟨D, 2, none⟩) (fun _ => rfl) (.slice ap k capp)
  refine i.keep k3 (fun b off e hb => ?_)
  have h1 := far b off e
  have h2 : b = D := hb
  omega
theorem pic0_in {w w' : World} {G : Prop} (h : PicB w' w.heap.size 47 0 0 none 0 0 → Keeps none' (w.alloc (.cells #[.int .i64 0, .int .i64 0, .slice none 0 0] 47)) w' → G) : Keeps none' (w.alloc (.cells #[.int .i64 0, .int .i64 0, .slice none 0 0] 47)) w' → G := by
  intro k
  have := PicB.new w 47 0 0 none 0 0
  exact h (PicB.later (w := w.alloc (.cells #[.int .i64 0, .int .i64 0, .slice none 0 0] 47)) this k) k
theorem pic0_in' {w w' : World} {G : Prop} (h : PicB w' w.heap.size 47 0 0 none 0 0 → Keeps none' (w.alloc (.cells #[.int .i64 0, .int .i64 0, .slice none 0 0] 47)).drew w' → G) : Keeps none' (w.alloc (.cells #[.int .i64 0, .int .i64 0, .slice none 0 0] 47)).drew w' → G := by
  intro k
  have := PicB.new w 47 0 0 none 0 0
  exact h (PicB.later (w := (w.alloc (.cells #[.int .i64 0, .int .i64 0, .slice none 0 0] 47)).drew) this k) k
theorem small_left {pw ph : Int} (h : ¬ pw > 0) : pw.toNat * ph.toNat ≤ 2000 := by rw [show pw.toNat = 0 by omega]; simp
theorem small_right {pw ph : Int} (h : ¬ ph > 0) : pw.toNat * ph.toNat ≤ 2000 := by rw [show ph.toNat = 0 by omega]; simp
set_option maxRecDepth 100000 in
set_option maxHeartbeats 6400000 in
theorem sees_start (W H : Int) (a : Option Addr) (n c : Nat) (zs : List Int) (m : Af.M) (pw ph : Int) (s : Bool) (w : World) (hz : Ints w a n zs) (hcap : a = none → n = 0 ∧ c = 0) :
    Calls Try.prog 7 #[.agg #[.int .i64 W, .int .i64 H, .slice a n c], .agg #[.int .i64 m.a, .int .i64 m.b, .int .i64 m.c, .int .i64 m.d, .int .i64 m.e, .int .i64 m.f], .int .i64 pw, .int .i64 ph, .bool s] w (Yes w) := by
  have P0 := Lib.hid ((PicB.new w 44 W H a n c).alloc (.cells #[.int .i64 m.a, .int .i64 m.b, .int .i64 m.c, .int .i64 m.d, .int .i64 m.e, .int .i64 m.f] 23))
  have hs : (w.alloc (.cells #[.int .i64 W, .int .i64 H, .slice a n c] 44)).heap.size = w.heap.size + 1 := by simp
  have F0 := Lib.hid (Six.new (w.alloc (.cells #[.int .i64 W, .int .i64 H, .slice a n c] 44)) 23 m)
  rw [hs] at F0
  have K0 := Lib.hid (((Keeps.refl none' w).alloc (.cells #[.int .i64 W, .int .i64 H, .slice a n c] 44)).alloc (.cells #[.int .i64 m.a, .int .i64 m.b, .int .i64 m.c, .int .i64 m.d, .int .i64 m.e, .int .i64 m.f] 23))
  have Z := Lib.hid hz
  have HC := Lib.hid hcap
  clear hs hz hcap
  go_enter Try.func7, Try.ntmps7
  go_upto_region 1 with (fail)
  generalize (w.alloc (.cells #[.int .i64 W, .int .i64 H, .slice a n c] 44)).alloc (.cells #[.int .i64 m.a, .int .i64 m.b, .int .i64 m.c, .int .i64 m.d, .int .i64 m.e, .int .i64 m.f] 23) = w1 at *
  go_wp2_with fail
  refine (anchor_any _).mono ?_
  rintro e w2 ⟨rfl, hk⟩
  have P1 := Lib.hid (P0.out.later hk)
  have F1 := Lib.hid (F0.out.later hk)
  have K1 := Lib.hid (K0.out.next hk)
  have c2 := P1.out.c2
  clear hk P0 F0 K0
  go_upto_region 3 with (fail)
  have LEN := Lib.hid (show n < 2001 ∨ 2000 < n from by omega)
  go_cut [53] from 22 to 52 (fun s53 w' => ∃ r, s53 = .bool r ∧ (r = false → n ≤ 2000 ∧ (Af.sizeOk pw ph → pw.toNat * ph.toNat ≤ 2000)) ∧ w' = w2)
  case first =>
    by_cases gn : (n : Int) > 2000
    · have t0 : decide ((n : Int) > 2000) = true := by simpa using gn
      clear gn
      go_wp2_with fail
      go_meet
      case rel => exact ⟨true, rfl, (fun h => by cases h), rfl⟩
    · have t0 : decide ((n : Int) > 2000) = false := by simpa using gn
      have hn : n ≤ 2000 := by omega
      by_cases g0 : pw > 0
      · have t_g0 : decide (pw > 0) = true := by simpa using g0
        by_cases g1 : ph > 0
        · have t_g1 : decide (ph > 0) = true := by simpa using g1
          by_cases g2 : pw ≤ 32768
          · have t_g2 : decide (pw ≤ 32768) = true := by simpa using g2
            by_cases g3 : ph ≤ 32768
            · have t_g3 : decide (ph ≤ 32768) = true := by simpa using g3
              have wm : IntKind.i64.wrap (pw * ph) = pw * ph := by
                have := Af.up_mul (show Af.Up pw 32768 from ⟨by omega, g2⟩) (show Af.Up ph 32768 from ⟨by omega, g3⟩) (by omega) (by omega)
                exact wrap_i64 _ (by have := this.1; omega) (by have := this.2; omega)
              have hk : (pw.toNat : Int) * ph.toNat = pw * ph := by rw [Int.toNat_of_nonneg (by omega), Int.toNat_of_nonneg (by omega)]
              by_cases g4 : pw * ph > 2000
              · have t4 : decide (pw * ph > 2000) = true := by simpa using g4
                by_cases g5 : pw * ph ≤ 4194304
                · have t5 : decide (pw * ph ≤ 4194304) = true := by simpa using g5
                  clear g0 g1 g2 g3 g4 g5 gn hk hn
                  go_wp2_with fail
                  go_meet
                  case rel => exact ⟨true, rfl, (fun h => by cases h), rfl⟩
                · have t5 : decide (pw * ph ≤ 4194304) = false := by simpa using g5
                  have HR := Lib.hid (show n ≤ 2000 ∧ (Af.sizeOk pw ph → pw.toNat * ph.toNat ≤ 2000) from ⟨hn, fun h => absurd h.2.2 g5⟩)
                  clear g0 g1 g2 g3 g4 g5 gn hk hn
                  go_wp2_with fail
                  go_meet
                  case rel => exact ⟨false, rfl, fun _ => HR.out, rfl⟩
              · have t4 : decide (pw * ph > 2000) = false := by simpa using g4
                have HR := Lib.hid (show n ≤ 2000 ∧ (Af.sizeOk pw ph → pw.toNat * ph.toNat ≤ 2000) from ⟨hn, fun h => by
                  have : ((pw.toNat * ph.toNat : Nat) : Int) = pw * ph := by push_cast; exact hk
                  omega⟩)
                clear g0 g1 g2 g3 g4 gn hk hn
                go_wp2_with fail
                go_meet
                case rel => exact ⟨false, rfl, fun _ => HR.out, rfl⟩
            · have t_g3 : decide (ph ≤ 32768) = false := by simpa using g3
              have hr : n ≤ 2000 ∧ (Af.sizeOk pw ph → pw.toNat * ph.toNat ≤ 2000) := ⟨hn, fun h => absurd h.2.1.2 g3⟩
              have HR := Lib.hid hr
              clear hr hn gn g0 g1 g2 g3
              go_wp2_with fail
              go_meet
              case rel => exact ⟨false, rfl, fun _ => HR.out, rfl⟩
          · have t_g2 : decide (pw ≤ 32768) = false := by simpa using g2
            have hr : n ≤ 2000 ∧ (Af.sizeOk pw ph → pw.toNat * ph.toNat ≤ 2000) := ⟨hn, fun h => absurd h.1.2 g2⟩
            have HR := Lib.hid hr
            clear hr hn gn g0 g1 g2
            go_wp2_with fail
            go_meet
            case rel => exact ⟨false, rfl, fun _ => HR.out, rfl⟩
        · have t_g1 : decide (ph > 0) = false := by simpa using g1
          have hr : n ≤ 2000 ∧ (Af.sizeOk pw ph → pw.toNat * ph.toNat ≤ 2000) := ⟨hn, fun h => small_right g1⟩
          have HR := Lib.hid hr
          clear hr hn gn g0 g1
          go_wp2_with fail
          go_meet
          case rel => exact ⟨false, rfl, fun _ => HR.out, rfl⟩
      · have t_g0 : decide (pw > 0) = false := by simpa using g0
        have hr : n ≤ 2000 ∧ (Af.sizeOk pw ph → pw.toNat * ph.toNat ≤ 2000) := ⟨hn, fun h => small_left g0⟩
        have HR := Lib.hid hr
        clear hr hn gn g0
        go_wp2_with fail
        go_meet
        case rel => exact ⟨false, rfl, fun _ => HR.out, rfl⟩
  case rest =>
    obtain ⟨r, rfl, hr, hwc⟩ := hcut
    subst hwc
    cases r
    · have HN := Lib.hid (hr rfl)
      clear hr LEN
      go_upto_region 5 with (fail)
      have d2 := (P1.out.alloc (.cells #[] 3)).c2
      go_wp2_with (at_builtin; go_must (refine wpList_append_ints rfl (.tmp 54) (.tmp 56) rfl wc.heap.size 0 (.slice (some ⟨wc.heap.size, 0, none⟩) 0 0) [] rfl ?e1 a n c zs rfl ?e2 HC.out (by omega) (by have := HN.out; omega) ?e3 ?e4))
      case e1 => exact own_new0 wc
      case e2 => exact Z.out.later (K1.out.alloc _)
      case e3 => simp
      case e4 =>
        intro aa cap w3 hown hg hat
        have G3 := Lib.hid (Given.mk1 P1.out F1.out Z.out K1.out hown hg)
        clear hown hg hat P1 F1 K1 d2 c2 Z HC
        generalize w.heap.size = B at *
        have c0 := G3.out.pic.c0
        have c1 := G3.out.pic.c1
        have c2 := G3.out.pic.c2
        have m0 := G3.out.map.c0
        have m1 := G3.out.map.c1
        have m2 := G3.out.map.c2
        have m3 := G3.out.map.c3
        have m4 := G3.out.map.c4
        have m5 := G3.out.map.c5
        have HN2 := Lib.hid HN.out.1
        have BK' := fun w => back_any m w
        obtain ⟨q, hq⟩ : ∃ q, (Af.backE m).1 = q := ⟨_, rfl⟩
        obtain ⟨z, hz⟩ : ∃ z, (Af.backE m).2 = z := ⟨_, rfl⟩
        rw [hq, hz] at BK'
        have BK := Lib.hid BK'
        have HQ := Lib.hid (And.intro hq hz)
        clear BK' hq hz
        obtain ⟨x, y, k, xs, code, hk2, hl, hxs, S22, S23⟩ := see_both W H n zs m pw ph s HN.out.1 HN.out.2
        have S := Lib.hid S22
        have T := Lib.hid S23
        have HX := Lib.hid (And.intro hk2 (And.intro hl hxs))
        clear S22 S23 hk2 hl hxs HN
        go_wp2_with fail
        refine (S.out _ _ _ G3.out.new).mono ?_
        rintro e w4 ⟨aq, capq, rfl, hi, hk, -⟩
        have G4 := Lib.hid (G3.out.later hk)
        have I4 := Lib.hid hi
        clear hi hk G3 c0 c1 c2 m0 m1 m2 m3 m4 m5 S
        have H5 := Lib.hid (Sawn.mk1 (x := x) (y := y) (capq := capq) G4.out I4.out)
        go_upto_region 7 with (fail)
        generalize w4.alloc (.cells #[.int .i64 x, .int .i64 y, .slice aq k capq] 44) = w5 at *
        generalize w4.heap.size = A at *
        clear G4 I4
        have HK := Lib.hid (And.intro (show Keeps none' w5 w5.drew from (Keeps.refl none' w5).drew) (show Keeps none' w5 (w5.alloc (.cells #[.int .i64 0, .int .i64 0, .slice none 0 0] 47)).drew from ((Keeps.refl none' w5).alloc _).drew))
        have EE := Lib.hid (H5.out.later ((Keeps.refl none' w5).alloc (.cells #[.int .i64 0, .int .i64 0, .slice none 0 0] 47)))
        have cp0 := H5.out.given.pic.c0
        have cp1 := H5.out.given.pic.c1
        have cp2 := H5.out.given.pic.c2
        have cm0 := H5.out.given.map.c0
        have cm1 := H5.out.given.map.c1
        have cm2 := H5.out.given.map.c2
        have cm3 := H5.out.given.map.c3
        have cm4 := H5.out.given.map.c4
        have cm5 := H5.out.given.map.c5
        have ep0 := EE.out.given.pic.c0
        have ep1 := EE.out.given.pic.c1
        have ep2 := EE.out.given.pic.c2
        have em0 := EE.out.given.map.c0
        have em1 := EE.out.given.map.c1
        have em2 := EE.out.given.map.c2
        have em3 := EE.out.given.map.c3
        have em4 := EE.out.given.map.c4
        have em5 := EE.out.given.map.c5
        go_cut [14, 15] from 72 (fun s14 s15 w' => ∃ (D : Nat) (ap : Option Addr) (capp : Nat), s14 = .pointer (some ⟨D, 0, none⟩) ∧ s15 = .int .i64 code ∧ Both7 w B A D W H a n c zs m aa x y aq k capq xs ap capp w')
        case first =>
          go_region_law (first
            | (go_simp; (with_reducible refine (plain_any _ _ _ _ _ _).mono ?_); rintro e w7 ⟨rfl, hk⟩; have K7 := Lib.hid (show Keeps none' w5 w7 from by first | (with_reducible exact HK.out.1.next hk) | (with_reducible exact HK.out.2.next hk)); have SW := Lib.hid (H5.out.later K7.out); have SA := Lib.hid (SW.out.later ((Keeps.refl none' w7).alloc (.cells #[.int .i64 0, .int .i64 0, .slice none 0 0] 47))); have bp0 := SW.out.given.pic.c0; have bp1 := SW.out.given.pic.c1; have bp2 := SW.out.given.pic.c2; have bm0 := SW.out.given.map.c0; have bm1 := SW.out.given.map.c1; have bm2 := SW.out.given.map.c2; have bm3 := SW.out.given.map.c3; have bm4 := SW.out.given.map.c4; have bm5 := SW.out.given.map.c5; have ap0 := SA.out.given.pic.c0; have ap1 := SA.out.given.pic.c1; have ap2 := SA.out.given.pic.c2; have am0 := SA.out.given.map.c0; have am1 := SA.out.given.map.c1; have am2 := SA.out.given.map.c2; have am3 := SA.out.given.map.c3; have am4 := SA.out.given.map.c4; have am5 := SA.out.given.map.c5; (first | (revert hk; (with_reducible refine pic0_in' ?_); intro ZB hk; have ZL := ZB.lt) | skip))
            | (go_simp; (first | (with_reducible refine (T.out _ _ _ SW.out.given.old).mono ?_) | (with_reducible refine (T.out _ _ _ SA.out.given.old).mono ?_)); rintro e w9 ⟨ap, capp, rfl, hi, hk, hf⟩; have K9 := Lib.hid (show Keeps none' w5 w9 from by first | (with_reducible exact K7.out.next hk) | (with_reducible exact (K7.out.alloc _).next hk)); have K79 := Lib.hid (show Keeps none' w7 w9 from by first | (with_reducible exact hk) | (with_reducible exact ((Keeps.refl none' w7).alloc _).next hk)); have I9 := Lib.hid hi; have FR := Lib.hid hf; clear hi hf; (first | (revert hk; (with_reducible refine pic0_in ?_); intro ZB hk; have zc0 := ZB.c0; have zc1 := ZB.c1; have zc2 := ZB.c2; have zf0 := ZB.fr (i := 0); have zf1 := ZB.fr (i := 1); have zf2 := ZB.fr (i := 2); have X2 := Lib.hid (Both7.mk2 (x := x) (y := y) (capp := capp) SW.out (Nat.le_refl _) K79.out ZB I9.out (by simp) FR.out)) | ((with_reducible have ZB := PicB.later ZB hk); have zc0 := ZB.c0; have zc1 := ZB.c1; have zc2 := ZB.c2; have zf0 := ZB.fr (i := 0); have zf1 := ZB.fr (i := 1); have zf2 := ZB.fr (i := 2); have X2 := Lib.hid (Both7.mk2 (x := x) (y := y) (capp := capp) H5.out (Nat.le_refl _) K9.out ZB I9.out ZL FR.out)) | skip)))
          all_goals first
            | (with_reducible have X := X2)
            | (have X1 := Lib.hid (Both7.mk1 (x := x) (y := y) (capp := capp) (H5.out.later K9.out) I9.out))
          all_goals
            clear K9 K79 I9 FR K7 SW SA HK EE H5 T cp0 cp1 cp2 cm0 cm1 cm2 cm3 cm4 cm5 ep0 ep1 ep2 em0 em1 em2 em3 em4 em5 bp0 bp1 bp2 bm0 bm1 bm2 bm3 bm4 bm5 ap0 ap1 ap2 am0 am1 am2 am3 am4 am5
          all_goals
            go_wp2_with fail
            go_meet
            case rel => refine ⟨_, ap, capp, rfl, rfl, ?_⟩; first | (with_reducible exact X.out) | (with_reducible exact X1.out)
        case rest =>
          obtain ⟨D, ap, capp, rfl, rfl, hB⟩ := hcut
          obtain ⟨w8, rfl⟩ : ∃ w8 : World, w8 = wc := ⟨_, rfl⟩
          have B8 := Lib.hid hB
          clear hB H5 HK EE T cp0 cp1 cp2 cm0 cm1 cm2 cm3 cm4 cm5 ep0 ep1 ep2 em0 em1 em2 em3 em4 em5
          have S1 := Lib.hid (same_yes aq ap k capq capp xs w8 (by have := HX.out.1; omega) B8.out.sawn.px B8.out.dx)
          have S2 := Lib.hid (same_yes aa a n cap c zs w8 (by have := HN2.out; omega) B8.out.sawn.given.new B8.out.sawn.given.old)
          have c0 := B8.out.sawn.pic.c0
          have c1 := B8.out.sawn.pic.c1
          have c2 := B8.out.sawn.pic.c2
          have d0 := B8.out.doc.c0
          have d1 := B8.out.doc.c1
          have d2 := B8.out.doc.c2
          have g2 := B8.out.sawn.given.pic.c2
          go_wp2_with fail
          refine (S1.out).mono ?_
          rintro e w9 ⟨rfl, rfl⟩
          go_wp2_with fail
          refine (S2.out).mono ?_
          rintro e w9 ⟨rfl, rfl⟩
          clear S1 S2 c0 c1 c2 d0 d1 d2 g2
          have m0 := B8.out.sawn.given.map.c0
          have m1 := B8.out.sawn.given.map.c1
          have m2 := B8.out.sawn.given.map.c2
          have m3 := B8.out.sawn.given.map.c3
          have m4 := B8.out.sawn.given.map.c4
          have m5 := B8.out.sawn.given.map.c5
          go_wp2_with fail
          refine (BK.out _).mono ?_
          rintro e wz ⟨rfl, hk⟩
          have B9 := Lib.hid (B8.out.later hk)
          clear hk B8 m0 m1 m2 m3 m4 m5
          go_upto_region 11 with (fail)
          have Q9 := Lib.hid (Six.new wz 23 q)
          have BA := Lib.hid (B9.out.later ((Keeps.refl none' wz).alloc (.cells #[.int .i64 q.a, .int .i64 q.b, .int .i64 q.c, .int .i64 q.d, .int .i64 q.e, .int .i64 q.f] 23)))
          generalize wz.alloc (.cells #[.int .i64 q.a, .int .i64 q.b, .int .i64 q.c, .int .i64 q.d, .int .i64 q.e, .int .i64 q.f] 23) = wy at *
          generalize wz.heap.size = E at *
          clear B9 BK
          have d2 := BA.out.doc.c2
          go_wp2_with fail
          clear d2
          go_loopw [122] (fun cnt wi => ∃ i : Nat, i ≤ k ∧ cnt = .int .i64 i ∧ Six wi E 23 q ∧ Both7 w B A D W H a n c zs m aa x y aq k capq xs ap capp wi) (fun cnt _ => k - (intOf cnt).toNat)
          case atStart => exact ⟨0, Nat.zero_le _, rfl, Q9.out, BA.out⟩
          case round =>
            clear Q9 BA
            obtain ⟨i, hi, rfl, hQ, hB⟩ := hrel
            have Q := Lib.hid hQ
            have BB := Lib.hid hB
            clear hQ hB
            by_cases hlt : i < k
            · obtain ⟨bb, off, v, rfl, hv, hfit, hc⟩ := BB.out.dx.at hlt
              obtain ⟨⟨hb, hp⟩, p0, i1, i2, he⟩ := HX.out.2.2 i v hv
              have hqo : q.ok := by
                obtain ⟨-, -, hbo, hb2⟩ := Af.back_ok hb
                rw [← HQ.out.1, hb2]
                exact hbo
              rw [HQ.out.1] at he
              obtain ⟨p, rfl⟩ : ∃ p : Nat, pw = p := ⟨pw.toNat, by omega⟩
              rw [Int.toNat_natCast] at p0 i1 i2 he
              have j1 : (0 : Int) ≤ ((i % p : Nat) : Int) ∧ ((i % p : Nat) : Int) ≤ 2000 := ⟨Int.natCast_nonneg _, by exact_mod_cast i1⟩
              have j2 : (0 : Int) ≤ ((i / p : Nat) : Int) ∧ ((i / p : Nat) : Int) ≤ 2000 := ⟨Int.natCast_nonneg _, by exact_mod_cast i2⟩
              have C' := fun w hz => at_any W H a n c zs q ((i % p : Nat) : Int) ((i / p : Nat) : Int) s w hz hp hqo ⟨by omega, by omega⟩ ⟨by omega, by omega⟩
              rw [he] at C'
              simp only [Int.natCast_emod, Int.natCast_ediv] at C'
              have C := Lib.hid C'
              clear C'
              have wd : IntKind.i64.wrap ((i : Int) / (p : Int)) = (i : Int) / (p : Int) := wrap_i64 _ (by omega) (by omega)
              have hrem : ((i : Int)).tmod (p : Int) = ((i % p : Nat) : Int) := rfl
              have hquo : ((i : Int)).tdiv (p : Int) = ((i / p : Nat) : Int) := rfl
              have wrem : IntKind.i64.wrap (((i % p : Nat) : Int)) = ((i % p : Nat) : Int) := wrap_i64 _ (by omega) (by omega)
              have wquo : IntKind.i64.wrap (((i / p : Nat) : Int)) = ((i / p : Nat) : Int) := wrap_i64 _ (by omega) (by omega)
              have pz : ¬ ((p : Int) = 0) := by omega
              have pz2 : ((p : Int) == 0) = false := by simp; omega
              have hii : (i : Int) < k := by omega
              have O := Lib.hid (And.intro BB.out.sawn.given.old (show Ints wr.drew a n zs from BB.out.sawn.given.old))
              clear hv hfit he i1 i2 hp hqo hb j1 j2
              have c0 := BB.out.sawn.given.pic.c0
              have c1 := BB.out.sawn.given.pic.c1
              have c2 := BB.out.sawn.given.pic.c2
              have q0 := Q.out.c0
              have q1 := Q.out.c1
              have q2 := Q.out.c2
              have q3 := Q.out.c3
              have q4 := Q.out.c4
              have q5 := Q.out.c5
              have nv : (v == v) = true := by simp
              have pn : ¬ p = 0 := by omega
              go_upto_region 14 with (fail)
              go_region_law (go_simp; (first | (with_reducible refine (C.out _ O.out.1).mono ?_) | (with_reducible refine (C.out _ O.out.2).mono ?_)); rintro e w7 ⟨rfl, hk⟩; have KK := Lib.hid (show Keeps none' wr w7 from by first | (with_reducible exact hk) | (with_reducible exact ((Keeps.refl none' wr).drew).next hk)); have Q2 := Lib.hid (Q.out.later KK.out); have BB2 := Lib.hid (BB.out.later KK.out); clear hk KK)
              all_goals
                clear c0 c1 c2 q0 q1 q2 q3 q4 q5 Q BB O C
                have k2 := HX.out.1
                clear wrem wquo hrem hquo wd
                go_wp2_with fail
                go_roundw
                case rel => exact ⟨i + 1, by omega, by go_num, Q2.out, BB2.out⟩
                case measure => simp [intOf]; omega
            · obtain rfl : i = k := by omega
              have t8 : decide (i < i) = false := by simp
              go_wp2_with fail
              go_ret
              exact ⟨rfl, BB.out.sawn.given.keeps⟩
    · clear hr LEN
      go_wp2_with fail
      go_ret
      exact ⟨rfl, K1.out⟩
theorem sees_walk (W H : Int) (a : Option Addr) (n c : Nat) (zs : List Int) (m : Af.M) (pw ph : Int) (s : Bool) (w : World) (hW : -9223372036854775808 ≤ W ∧ W ≤ 9223372036854775807) (hH : -9223372036854775808 ≤ H ∧ H ≤ 9223372036854775807) (hn : n ≤ c) (hz : Ints w a n zs) (hcap : a = none → n = 0 ∧ c = 0) (h1 : -9223372036854775808 ≤ pw ∧ pw ≤ 9223372036854775807) (h2 : -9223372036854775808 ≤ ph ∧ ph ≤ 9223372036854775807) :
    Calls Try.prog 7 #[.agg #[.int .i64 W, .int .i64 H, .slice a n c], .agg #[.int .i64 m.a, .int .i64 m.b, .int .i64 m.c, .int .i64 m.d, .int .i64 m.e, .int .i64 m.f], .int .i64 pw, .int .i64 ph, .bool s] w (Yes w) := sees_start W H a n c zs m pw ph s w hz hcap
end Go.Proofs.Ytfcndldobjpbnaa
