/- TileFills: the walk. -/
import Derived.Test.YtgonpaofickffaaUK
import Derived.Deep.Cut
import Derived.Deep.RegionHeld3
namespace Go.Proofs.Ytgonpaofickffaa
open Go.RowKit Go.Maps
set_option linter.unusedVariables false

def Kp (w8 w' : World) : Prop := Keeps none' w8 w'

set_option maxRecDepth 100000 in
set_option maxHeartbeats 6400000 in
theorem fills_good (Kd Nn X Y OW OH : Int) (v W H : Nat) (w : World) (hx : I64 X) (hy : I64 Y) (hw : I64 OW) (hh : I64 OH) (hv : v ≤ 4294967295) (hW : W ≤ 40) (hH : H ≤ 40) (hW1 : 1 ≤ W) (hH1 : 1 ≤ H) : Calls Try.prog 6 #[.agg #[.int .i64 Kd, .int .i64 Nn, .int .i64 X, .int .i64 Y, .int .i64 OW, .int .i64 OH, .int .i64 (v : Int)], .int .i64 (W : Int), .int .i64 (H : Int)] w (Yes w) := by
  have A := Lib.hid anchor_any
  have t0 : decide ((W : Int) < 1) = false := decide_eq_false (by omega)
  have t1 : decide ((H : Int) < 1) = false := decide_eq_false (by omega)
  have t2 : decide (40 < (W : Int)) = false := decide_eq_false (by omega)
  have t3 : decide (40 < (H : Int)) = false := decide_eq_false (by omega)
  have t4 : decide ((v : Int) < 0) = false := decide_eq_false (by omega)
  have t5 : decide (4294967296 ≤ (v : Int)) = false := decide_eq_false (by omega)
  go_enter Try.func6, Try.ntmps6
  go_wp2_with fail
  refine (A.out _).mono ?_
  rintro e w1 ⟨rfl, hk⟩
  obtain ⟨T, hT⟩ : ∃ T, T = w.heap.size := ⟨_, rfl⟩
  have hb : w1.heap[T]? = some (.cells #[.int .i64 Kd, .int .i64 Nn, .int .i64 X, .int .i64 Y, .int .i64 OW, .int .i64 OH, .int .i64 (v : Int)] 39 (0, 0)) := by rw [hT]; exact (hk.later _ (by show _ < (Array.push _ _).size; simp)).trans (heap_alloc_new _ _)
  have BX := Lib.hid (fun w' (k : Keeps none' w1 w') => (k.later T (lt_of_block hb)).trans hb)
  have CL : ∀ w' : World, w'.heap[T]? = some (.cells #[.int .i64 Kd, .int .i64 Nn, .int .i64 X, .int .i64 Y, .int .i64 OW, .int .i64 OH, .int .i64 (v : Int)] 39 (0, 0)) → w'.cell? ⟨T, 2, none⟩ = some (.int .i64 X) ∧ w'.cell? ⟨T, 3, none⟩ = some (.int .i64 Y) ∧ w'.cell? ⟨T, 4, none⟩ = some (.int .i64 OW) ∧ w'.cell? ⟨T, 5, none⟩ = some (.int .i64 OH) ∧ w'.cell? ⟨T, 6, none⟩ = some (.int .i64 (v : Int)) := by
    intro w' hb
    simp [World.cell?, hb]
  have CL := Lib.hid CL
  obtain ⟨-, -, -, -, b6⟩ := CL.out w1 hb
  have HK := Lib.hid (((Keeps.refl none' w).alloc _).trans hk (fun _ _ h => h))
  have C1 := Lib.hid (new_yes 100 w1 (by omega))
  rw [← hT]
  clear hk hb hT A
  go_wp2_with fail
  refine C1.out.mono ?_
  rintro e w2 ⟨rfl, hRa, hK2, hs2⟩
  have C2 := Lib.hid (new_yes 100 w2 (by omega))
  have G2 := Lib.hid (And.intro hRa (And.intro hK2 hs2))
  clear hRa hK2 hs2 C1
  clear t0 t1 t2 t3 t4 t5
  go_wp2_with fail
  refine C2.out.mono ?_
  rintro e w3 ⟨rfl, hRb, hK3, -⟩
  obtain ⟨hRa, hK2, hs2⟩ := G2.out
  have sep3 := sep_new hRa 100
  have la := low_new w1.heap.size 100 w1.heap.size (Nat.le_refl _)
  have lb := low_new w2.heap.size 100 w1.heap.size hK2.size
  have C3 := Lib.hid (plane_yes w3 _ (hRa.later hK3) W H (by omega) (by omega) (by simp [St.new]))
  have G3 := Lib.hid (And.intro hRb (And.intro sep3 (And.intro la (And.intro lb (hK2.trans hK3 (fun _ _ h => h))))))
  clear hRa hK2 hs2 hRb hK3 sep3 la lb C2 G2
  go_wp2_with fail
  refine C3.out.mono ?_
  rintro e w4 ⟨p, rfl, hRa, hK4, pW, pH, pT, -, p1, p2⟩
  obtain ⟨hRb, sep3, la, lb, k3⟩ := G3.out
  have s3 := k3.size
  have sep4 := (sep3.symm).more hRb p1 p2
  have C4 := Lib.hid (plane_yes w4 _ (hRb.later hK4) W H (by omega) (by omega) (by simp [St.new]))
  have G4 := Lib.hid (And.intro hRa (And.intro sep4 (And.intro (la.more (q := p) (by omega) (by omega)) (And.intro lb (And.intro (k3.trans hK4 (fun _ _ h => h)) (And.intro pW (And.intro pH pT)))))))
  clear hRa hK4 pW pH pT p1 p2 hRb sep3 la lb k3 s3 sep4 C3 G3
  go_wp2_with fail
  refine C4.out.mono ?_
  rintro e w5 ⟨q, rfl, hRb, hK5, qW, qH, qT, -, q1, q2⟩
  obtain ⟨hRa, sep4, la, lb, k4, pW, pH, pT⟩ := G4.out
  have s4 := k4.size
  have D0 : Duo w1 W H w1.heap.size w2.heap.size p.pb q.pb ((St.new w1.heap.size 100).more p) ((St.new w2.heap.size 100).more q) p q w5 :=
    ⟨hRa.later hK5, hRb, rfl, rfl, rfl, rfl, rfl, rfl, rfl, rfl, pW, pH, qW, qH, (sep4.symm.more hRa q1 q2).symm, la, lb.more (by omega) (by omega), k4.trans hK5 (fun _ _ h => h)⟩
  have CF := Lib.hid (fill_solo2 w5 _ D0.ra p rfl rfl (by omega) (by omega) pT X Y OW OH v hx hy hw hh hv)
  have WB := Lib.hid (show Wet ((St.new w2.heap.size 100).more q) q ∧ ∀ x y, px ((St.new w2.heap.size 100).more q) q x y = 0 from ⟨Wet.bare qT, fun x y => by unfold px; rw [qT]⟩)
  have PB := Lib.hid (show (∀ x y, px ((St.new w1.heap.size 100).more p) p x y = 0) ∧ p.W = W ∧ p.H = H from ⟨fun x y => by unfold px; rw [pT], pW, pH⟩)
  have D1 := Lib.hid D0
  obtain ⟨b2, b3, b4, b5, b6'⟩ := CL.out w5 (BX.out w5 D0.keeps)
  clear D0 hRb hK5 qW qH qT q1 q2 hRa sep4 la lb k4 pW pH pT s4 C4 G4 b6
  generalize (St.new w1.heap.size 100).more p = Sa0 at *
  generalize (St.new w2.heap.size 100).more q = Sb0 at *
  go_wp2_with fail
  refine CF.out.mono ?_
  rintro e w6 ⟨rfl, Sa, p', hm, hr, hk, hwet, hpx, hout⟩
  have D2 := Lib.hid (D1.out.stepA hm hr hk)
  have FP := Lib.hid (And.intro hwet (And.intro hpx hout))
  clear hm hr hk hwet hpx hout b2 b3 b4 b5 b6' CF D1
  obtain ⟨M, hM⟩ : ∃ M, M = W * H := ⟨_, rfl⟩
  have hM2 : M ≤ 1600 := by rw [hM]; exact Nat.mul_le_mul hW hH
  have hMc : (W : Int) * (H : Int) = (M : Int) := by rw [hM]; simp
  have u0 : IntKind.i64.wrap ((W : Int) * (H : Int)) = (M : Int) := by rw [hMc, wrap_i64 _ (by omega) (by omega)]
  have HM := Lib.hid hM
  have hW0 : ((W : Int) == 0) = false := by simp; omega
  have hW0' : ¬ (W : Int) = 0 := by omega
  clear hM hMc
  go_wp2_with fail
  go_loopw [90] (fun cnt wr => ∃ (i : Nat) (Sb : St) (q' : Pl), i ≤ M ∧ cnt = .int .i64 i ∧ Duo w1 W H w1.heap.size w2.heap.size p.pb q.pb Sa Sb p' q' wr ∧ Wet Sb q' ∧ Pix X OW Y OH W H v i Sb q') (fun cnt _ => M - (intOf cnt).toNat)
  case atStart => exact ⟨0, Sb0, q, by omega, rfl, D2.out, WB.out.1, pix_start WB.out.2⟩
  case round =>
    clear D2 WB
    obtain ⟨i, Sb, q', hi, rfl, hD, hwet, hpix⟩ := hrel
    have D3 := Lib.hid hD
    have FX := Lib.hid (And.intro hwet hpix)
    obtain ⟨b2, b3, b4, b5, b6⟩ := CL.out wr (BX.out wr hD.keeps)
    clear hD hwet hpix
    by_cases hlt : i < M
    · obtain ⟨a, ha⟩ : ∃ a, a = i % W := ⟨_, rfl⟩
      obtain ⟨b, hb⟩ : ∃ b, b = i / W := ⟨_, rfl⟩
      have haW : a < W := by rw [ha]; exact Nat.mod_lt _ (by omega)
      have hbH : b < H := by rw [hb]; exact Nat.div_lt_of_lt_mul (by rw [← HM.out]; exact hlt)
      have e1 : (i : Int) % (W : Int) = (a : Int) := by rw [ha]; simp
      have e2 : (i : Int) / (W : Int) = (b : Int) := by rw [hb]; simp
      have e3 : Int.tmod (i : Int) (W : Int) = (a : Int) := by rw [ha]; rfl
      have e4 : Int.tdiv (i : Int) (W : Int) = (b : Int) := by rw [hb]; rfl
      have EA := Lib.hid (And.intro ha hb)
      have AB2 := Lib.hid (And.intro haW hbH)
      have hx' := hx
      have hy' := hy
      have hw' := hw
      have hh' := hh
      unfold I64 at hx' hy' hw' hh'
      clear ha hb
      by_cases k1 : 0 < OW
      · by_cases k2 : 0 < OH
        · by_cases k3 : X ≤ (a : Int)
          · by_cases k4 : Y ≤ (b : Int)
            · by_cases k5 : 0 ≤ X
              · by_cases k6 : (a : Int) - X < OW
                · by_cases k8 : 0 ≤ Y
                  · by_cases k9 : (b : Int) - Y < OH
                    · have HI := Lib.hid (show Into X OW (i % W) ∧ Into Y OH (i / W) by rw [← EA.out.1, ← EA.out.2]; unfold Into; omega)
                      have bx : -9223372036854775808 ≤ (a : Int) - X ∧ (a : Int) - X ≤ 9223372036854775807 := by omega
                      have mx : decide (X < 0) = false := decide_eq_false (by omega)
                      have by_ : -9223372036854775808 ≤ (b : Int) - Y ∧ (b : Int) - Y ≤ 9223372036854775807 := by omega
                      have my : decide (Y < 0) = false := decide_eq_false (by omega)
                      have dk1 : decide (0 < OW) = true := decide_eq_true k1
                      have dk2 : decide (0 < OH) = true := decide_eq_true k2
                      have dk3 : decide (X ≤ (a : Int)) = true := decide_eq_true k3
                      have dk4 : decide (Y ≤ (b : Int)) = true := decide_eq_true k4
                      have dk5 : decide (0 ≤ X) = true := decide_eq_true k5
                      have dk6 : decide ((a : Int) - X < OW) = true := decide_eq_true k6
                      have dk8 : decide (0 ≤ Y) = true := decide_eq_true k8
                      have dk9 : decide ((b : Int) - Y < OH) = true := decide_eq_true k9
                      have vx : IntKind.i64.wrap ((a : Int) - X) = (a : Int) - X := wrap_i64 _ bx.1 bx.2
                      have wx : wrap64 ((a : Int) - X) = (a : Int) - X := w64f _ bx.1 bx.2
                      have vy : IntKind.i64.wrap ((b : Int) - Y) = (b : Int) - Y := wrap_i64 _ by_.1 by_.2
                      have wy : wrap64 ((b : Int) - Y) = (b : Int) - Y := w64f _ by_.1 by_.2
                      clear bx
                      clear by_
                      have CS := Lib.hid (fun wd (k : Keeps none' wr wd) => set_solo2 wd Sb (D3.out.rb.later k) q' D3.out.pb D3.out.cb (by rw [D3.out.wb]; exact hW) (by rw [D3.out.hb]; exact hH) FX.out.1 a b v (by rw [D3.out.wb]; exact AB2.out.1) (by rw [D3.out.hb]; exact AB2.out.2) hv (zero_or FX.out.2 AB2.out.1 AB2.out.2))
                      rw [D3.out.bb] at CS
                      go_wp2_with fail
                      go_quiet (fail)
                      have KD := Lib.hid ((Keeps.refl none' wr).drewN nq)
                      clear b2 b3 b4 b5 b6 e1 e2 e3 e4 hW0 hW0'
                      generalize wr.drewN nq = wd at *
                      obtain ⟨b2, b3, b4, b5, b6⟩ := CL.out wd (BX.out wd (D3.out.keeps.trans KD.out (fun _ _ h => h)))
                      clear hx' hy' hw' hh'
                      go_upto_region 16 with (fail)
                      simp only [List.append_eq, List.cons_append, List.nil_append]
                      go_wp2_with fail
                      refine (CS.out wd KD.out).mono ?_
                      rintro e w7 ⟨rfl, Sc, q2, hm, hr, hk, hwet, hpx, hout⟩
                      have D4 := Lib.hid ((D3.out.later KD.out).stepB hm hr hk)
                      have FY := Lib.hid (And.intro hwet (show Pix X OW Y OH W H v (i + 1) Sc q2 from pix_yes D3.out.wb D3.out.hb FX.out.2 HI.out EA.out hpx hout))
                      clear hm hr hk hwet hpx hout CS D3 FX b2 b3 b4 b5 b6
                      go_wp2_with fail
                      go_roundw
                      case rel => exact ⟨i + 1, Sc, q2, hlt, by go_num, D4.out, FY.out.1, FY.out.2⟩
                      case measure => simp [intOf]; omega
                    · have HN := Lib.hid (show ¬ (Into X OW (i % W) ∧ Into Y OH (i / W)) by rw [← EA.out.1, ← EA.out.2]; unfold Into; omega)
                      have bx : -9223372036854775808 ≤ (a : Int) - X ∧ (a : Int) - X ≤ 9223372036854775807 := by omega
                      have mx : decide (X < 0) = false := decide_eq_false (by omega)
                      have by_ : -9223372036854775808 ≤ (b : Int) - Y ∧ (b : Int) - Y ≤ 9223372036854775807 := by omega
                      have my : decide (Y < 0) = false := decide_eq_false (by omega)
                      have dk1 : decide (0 < OW) = true := decide_eq_true k1
                      have dk2 : decide (0 < OH) = true := decide_eq_true k2
                      have dk3 : decide (X ≤ (a : Int)) = true := decide_eq_true k3
                      have dk4 : decide (Y ≤ (b : Int)) = true := decide_eq_true k4
                      have dk5 : decide (0 ≤ X) = true := decide_eq_true k5
                      have dk6 : decide ((a : Int) - X < OW) = true := decide_eq_true k6
                      have dk8 : decide (0 ≤ Y) = true := decide_eq_true k8
                      have dk9 : decide ((b : Int) - Y < OH) = false := decide_eq_false k9
                      have vx : IntKind.i64.wrap ((a : Int) - X) = (a : Int) - X := wrap_i64 _ bx.1 bx.2
                      have wx : wrap64 ((a : Int) - X) = (a : Int) - X := w64f _ bx.1 bx.2
                      have vy : IntKind.i64.wrap ((b : Int) - Y) = (b : Int) - Y := wrap_i64 _ by_.1 by_.2
                      have wy : wrap64 ((b : Int) - Y) = (b : Int) - Y := w64f _ by_.1 by_.2
                      clear bx
                      clear by_
                      go_wp2_with fail
                      go_quiet (fail)
                      have KD := Lib.hid ((Keeps.refl none' wr).drewN nq)
                      clear b2 b3 b4 b5 b6 e1 e2 e3 e4 hW0 hW0'
                      generalize wr.drewN nq = wd at *
                      obtain ⟨b2, b3, b4, b5, b6⟩ := CL.out wd (BX.out wd (D3.out.keeps.trans KD.out (fun _ _ h => h)))
                      clear hx' hy' hw' hh'
                      go_upto_region 16 with (fail)
                      simp only [List.append_eq, List.cons_append, List.nil_append]
                      go_wp2_with fail
                      go_roundw
                      case rel => exact ⟨i + 1, Sb, q', hlt, by go_num, D3.out.later KD.out, FX.out.1, pix_no HN.out FX.out.2⟩
                      case measure => simp [intOf]; omega
                  · by_cases k10 : (b : Int) < OH + Y
                    · have HI := Lib.hid (show Into X OW (i % W) ∧ Into Y OH (i / W) by rw [← EA.out.1, ← EA.out.2]; unfold Into; omega)
                      have bx : -9223372036854775808 ≤ (a : Int) - X ∧ (a : Int) - X ≤ 9223372036854775807 := by omega
                      have mx : decide (X < 0) = false := decide_eq_false (by omega)
                      have by_ : -9223372036854775808 ≤ OH + Y ∧ OH + Y ≤ 9223372036854775807 := by omega
                      have my : decide (Y < 0) = true := decide_eq_true (by omega)
                      have dk1 : decide (0 < OW) = true := decide_eq_true k1
                      have dk2 : decide (0 < OH) = true := decide_eq_true k2
                      have dk3 : decide (X ≤ (a : Int)) = true := decide_eq_true k3
                      have dk4 : decide (Y ≤ (b : Int)) = true := decide_eq_true k4
                      have dk5 : decide (0 ≤ X) = true := decide_eq_true k5
                      have dk6 : decide ((a : Int) - X < OW) = true := decide_eq_true k6
                      have dk8 : decide (0 ≤ Y) = false := decide_eq_false k8
                      have dk10 : decide ((b : Int) < OH + Y) = true := decide_eq_true k10
                      have vx : IntKind.i64.wrap ((a : Int) - X) = (a : Int) - X := wrap_i64 _ bx.1 bx.2
                      have wx : wrap64 ((a : Int) - X) = (a : Int) - X := w64f _ bx.1 bx.2
                      have vy : IntKind.i64.wrap (OH + Y) = OH + Y := wrap_i64 _ by_.1 by_.2
                      have wy : wrap64 (OH + Y) = OH + Y := w64f _ by_.1 by_.2
                      clear bx
                      clear by_
                      have CS := Lib.hid (fun wd (k : Keeps none' wr wd) => set_solo2 wd Sb (D3.out.rb.later k) q' D3.out.pb D3.out.cb (by rw [D3.out.wb]; exact hW) (by rw [D3.out.hb]; exact hH) FX.out.1 a b v (by rw [D3.out.wb]; exact AB2.out.1) (by rw [D3.out.hb]; exact AB2.out.2) hv (zero_or FX.out.2 AB2.out.1 AB2.out.2))
                      rw [D3.out.bb] at CS
                      go_wp2_with fail
                      go_quiet (fail)
                      have KD := Lib.hid ((Keeps.refl none' wr).drewN nq)
                      clear b2 b3 b4 b5 b6 e1 e2 e3 e4 hW0 hW0'
                      generalize wr.drewN nq = wd at *
                      obtain ⟨b2, b3, b4, b5, b6⟩ := CL.out wd (BX.out wd (D3.out.keeps.trans KD.out (fun _ _ h => h)))
                      clear hx' hy' hw' hh'
                      go_upto_region 16 with (fail)
                      simp only [List.append_eq, List.cons_append, List.nil_append]
                      go_wp2_with fail
                      refine (CS.out wd KD.out).mono ?_
                      rintro e w7 ⟨rfl, Sc, q2, hm, hr, hk, hwet, hpx, hout⟩
                      have D4 := Lib.hid ((D3.out.later KD.out).stepB hm hr hk)
                      have FY := Lib.hid (And.intro hwet (show Pix X OW Y OH W H v (i + 1) Sc q2 from pix_yes D3.out.wb D3.out.hb FX.out.2 HI.out EA.out hpx hout))
                      clear hm hr hk hwet hpx hout CS D3 FX b2 b3 b4 b5 b6
                      go_wp2_with fail
                      go_roundw
                      case rel => exact ⟨i + 1, Sc, q2, hlt, by go_num, D4.out, FY.out.1, FY.out.2⟩
                      case measure => simp [intOf]; omega
                    · have HN := Lib.hid (show ¬ (Into X OW (i % W) ∧ Into Y OH (i / W)) by rw [← EA.out.1, ← EA.out.2]; unfold Into; omega)
                      have bx : -9223372036854775808 ≤ (a : Int) - X ∧ (a : Int) - X ≤ 9223372036854775807 := by omega
                      have mx : decide (X < 0) = false := decide_eq_false (by omega)
                      have by_ : -9223372036854775808 ≤ OH + Y ∧ OH + Y ≤ 9223372036854775807 := by omega
                      have my : decide (Y < 0) = true := decide_eq_true (by omega)
                      have dk1 : decide (0 < OW) = true := decide_eq_true k1
                      have dk2 : decide (0 < OH) = true := decide_eq_true k2
                      have dk3 : decide (X ≤ (a : Int)) = true := decide_eq_true k3
                      have dk4 : decide (Y ≤ (b : Int)) = true := decide_eq_true k4
                      have dk5 : decide (0 ≤ X) = true := decide_eq_true k5
                      have dk6 : decide ((a : Int) - X < OW) = true := decide_eq_true k6
                      have dk8 : decide (0 ≤ Y) = false := decide_eq_false k8
                      have dk10 : decide ((b : Int) < OH + Y) = false := decide_eq_false k10
                      have vx : IntKind.i64.wrap ((a : Int) - X) = (a : Int) - X := wrap_i64 _ bx.1 bx.2
                      have wx : wrap64 ((a : Int) - X) = (a : Int) - X := w64f _ bx.1 bx.2
                      have vy : IntKind.i64.wrap (OH + Y) = OH + Y := wrap_i64 _ by_.1 by_.2
                      have wy : wrap64 (OH + Y) = OH + Y := w64f _ by_.1 by_.2
                      clear bx
                      clear by_
                      go_wp2_with fail
                      go_quiet (fail)
                      have KD := Lib.hid ((Keeps.refl none' wr).drewN nq)
                      clear b2 b3 b4 b5 b6 e1 e2 e3 e4 hW0 hW0'
                      generalize wr.drewN nq = wd at *
                      obtain ⟨b2, b3, b4, b5, b6⟩ := CL.out wd (BX.out wd (D3.out.keeps.trans KD.out (fun _ _ h => h)))
                      clear hx' hy' hw' hh'
                      go_upto_region 16 with (fail)
                      simp only [List.append_eq, List.cons_append, List.nil_append]
                      go_wp2_with fail
                      go_roundw
                      case rel => exact ⟨i + 1, Sb, q', hlt, by go_num, D3.out.later KD.out, FX.out.1, pix_no HN.out FX.out.2⟩
                      case measure => simp [intOf]; omega
                · have HN := Lib.hid (show ¬ (Into X OW (i % W) ∧ Into Y OH (i / W)) by rw [← EA.out.1, ← EA.out.2]; unfold Into; omega)
                  have bx : -9223372036854775808 ≤ (a : Int) - X ∧ (a : Int) - X ≤ 9223372036854775807 := by omega
                  have mx : decide (X < 0) = false := decide_eq_false (by omega)
                  have dk1 : decide (0 < OW) = true := decide_eq_true k1
                  have dk2 : decide (0 < OH) = true := decide_eq_true k2
                  have dk3 : decide (X ≤ (a : Int)) = true := decide_eq_true k3
                  have dk4 : decide (Y ≤ (b : Int)) = true := decide_eq_true k4
                  have dk5 : decide (0 ≤ X) = true := decide_eq_true k5
                  have dk6 : decide ((a : Int) - X < OW) = false := decide_eq_false k6
                  have vx : IntKind.i64.wrap ((a : Int) - X) = (a : Int) - X := wrap_i64 _ bx.1 bx.2
                  have wx : wrap64 ((a : Int) - X) = (a : Int) - X := w64f _ bx.1 bx.2
                  clear bx
                  go_wp2_with fail
                  go_quiet (fail)
                  have KD := Lib.hid ((Keeps.refl none' wr).drewN nq)
                  clear b2 b3 b4 b5 b6 e1 e2 e3 e4 hW0 hW0'
                  generalize wr.drewN nq = wd at *
                  obtain ⟨b2, b3, b4, b5, b6⟩ := CL.out wd (BX.out wd (D3.out.keeps.trans KD.out (fun _ _ h => h)))
                  clear hx' hy' hw' hh'
                  go_upto_region 16 with (fail)
                  simp only [List.append_eq, List.cons_append, List.nil_append]
                  go_wp2_with fail
                  go_roundw
                  case rel => exact ⟨i + 1, Sb, q', hlt, by go_num, D3.out.later KD.out, FX.out.1, pix_no HN.out FX.out.2⟩
                  case measure => simp [intOf]; omega
              · by_cases k7 : (a : Int) < OW + X
                · by_cases k8 : 0 ≤ Y
                  · by_cases k9 : (b : Int) - Y < OH
                    · have HI := Lib.hid (show Into X OW (i % W) ∧ Into Y OH (i / W) by rw [← EA.out.1, ← EA.out.2]; unfold Into; omega)
                      have bx : -9223372036854775808 ≤ OW + X ∧ OW + X ≤ 9223372036854775807 := by omega
                      have mx : decide (X < 0) = true := decide_eq_true (by omega)
                      have by_ : -9223372036854775808 ≤ (b : Int) - Y ∧ (b : Int) - Y ≤ 9223372036854775807 := by omega
                      have my : decide (Y < 0) = false := decide_eq_false (by omega)
                      have dk1 : decide (0 < OW) = true := decide_eq_true k1
                      have dk2 : decide (0 < OH) = true := decide_eq_true k2
                      have dk3 : decide (X ≤ (a : Int)) = true := decide_eq_true k3
                      have dk4 : decide (Y ≤ (b : Int)) = true := decide_eq_true k4
                      have dk5 : decide (0 ≤ X) = false := decide_eq_false k5
                      have dk7 : decide ((a : Int) < OW + X) = true := decide_eq_true k7
                      have dk8 : decide (0 ≤ Y) = true := decide_eq_true k8
                      have dk9 : decide ((b : Int) - Y < OH) = true := decide_eq_true k9
                      have vx : IntKind.i64.wrap (OW + X) = OW + X := wrap_i64 _ bx.1 bx.2
                      have wx : wrap64 (OW + X) = OW + X := w64f _ bx.1 bx.2
                      have vy : IntKind.i64.wrap ((b : Int) - Y) = (b : Int) - Y := wrap_i64 _ by_.1 by_.2
                      have wy : wrap64 ((b : Int) - Y) = (b : Int) - Y := w64f _ by_.1 by_.2
                      clear bx
                      clear by_
                      have CS := Lib.hid (fun wd (k : Keeps none' wr wd) => set_solo2 wd Sb (D3.out.rb.later k) q' D3.out.pb D3.out.cb (by rw [D3.out.wb]; exact hW) (by rw [D3.out.hb]; exact hH) FX.out.1 a b v (by rw [D3.out.wb]; exact AB2.out.1) (by rw [D3.out.hb]; exact AB2.out.2) hv (zero_or FX.out.2 AB2.out.1 AB2.out.2))
                      rw [D3.out.bb] at CS
                      go_wp2_with fail
                      go_quiet (fail)
                      have KD := Lib.hid ((Keeps.refl none' wr).drewN nq)
                      clear b2 b3 b4 b5 b6 e1 e2 e3 e4 hW0 hW0'
                      generalize wr.drewN nq = wd at *
                      obtain ⟨b2, b3, b4, b5, b6⟩ := CL.out wd (BX.out wd (D3.out.keeps.trans KD.out (fun _ _ h => h)))
                      clear hx' hy' hw' hh'
                      go_upto_region 16 with (fail)
                      simp only [List.append_eq, List.cons_append, List.nil_append]
                      go_wp2_with fail
                      refine (CS.out wd KD.out).mono ?_
                      rintro e w7 ⟨rfl, Sc, q2, hm, hr, hk, hwet, hpx, hout⟩
                      have D4 := Lib.hid ((D3.out.later KD.out).stepB hm hr hk)
                      have FY := Lib.hid (And.intro hwet (show Pix X OW Y OH W H v (i + 1) Sc q2 from pix_yes D3.out.wb D3.out.hb FX.out.2 HI.out EA.out hpx hout))
                      clear hm hr hk hwet hpx hout CS D3 FX b2 b3 b4 b5 b6
                      go_wp2_with fail
                      go_roundw
                      case rel => exact ⟨i + 1, Sc, q2, hlt, by go_num, D4.out, FY.out.1, FY.out.2⟩
                      case measure => simp [intOf]; omega
                    · have HN := Lib.hid (show ¬ (Into X OW (i % W) ∧ Into Y OH (i / W)) by rw [← EA.out.1, ← EA.out.2]; unfold Into; omega)
                      have bx : -9223372036854775808 ≤ OW + X ∧ OW + X ≤ 9223372036854775807 := by omega
                      have mx : decide (X < 0) = true := decide_eq_true (by omega)
                      have by_ : -9223372036854775808 ≤ (b : Int) - Y ∧ (b : Int) - Y ≤ 9223372036854775807 := by omega
                      have my : decide (Y < 0) = false := decide_eq_false (by omega)
                      have dk1 : decide (0 < OW) = true := decide_eq_true k1
                      have dk2 : decide (0 < OH) = true := decide_eq_true k2
                      have dk3 : decide (X ≤ (a : Int)) = true := decide_eq_true k3
                      have dk4 : decide (Y ≤ (b : Int)) = true := decide_eq_true k4
                      have dk5 : decide (0 ≤ X) = false := decide_eq_false k5
                      have dk7 : decide ((a : Int) < OW + X) = true := decide_eq_true k7
                      have dk8 : decide (0 ≤ Y) = true := decide_eq_true k8
                      have dk9 : decide ((b : Int) - Y < OH) = false := decide_eq_false k9
                      have vx : IntKind.i64.wrap (OW + X) = OW + X := wrap_i64 _ bx.1 bx.2
                      have wx : wrap64 (OW + X) = OW + X := w64f _ bx.1 bx.2
                      have vy : IntKind.i64.wrap ((b : Int) - Y) = (b : Int) - Y := wrap_i64 _ by_.1 by_.2
                      have wy : wrap64 ((b : Int) - Y) = (b : Int) - Y := w64f _ by_.1 by_.2
                      clear bx
                      clear by_
                      go_wp2_with fail
                      go_quiet (fail)
                      have KD := Lib.hid ((Keeps.refl none' wr).drewN nq)
                      clear b2 b3 b4 b5 b6 e1 e2 e3 e4 hW0 hW0'
                      generalize wr.drewN nq = wd at *
                      obtain ⟨b2, b3, b4, b5, b6⟩ := CL.out wd (BX.out wd (D3.out.keeps.trans KD.out (fun _ _ h => h)))
                      clear hx' hy' hw' hh'
                      go_upto_region 16 with (fail)
                      simp only [List.append_eq, List.cons_append, List.nil_append]
                      go_wp2_with fail
                      go_roundw
                      case rel => exact ⟨i + 1, Sb, q', hlt, by go_num, D3.out.later KD.out, FX.out.1, pix_no HN.out FX.out.2⟩
                      case measure => simp [intOf]; omega
                  · by_cases k10 : (b : Int) < OH + Y
                    · have HI := Lib.hid (show Into X OW (i % W) ∧ Into Y OH (i / W) by rw [← EA.out.1, ← EA.out.2]; unfold Into; omega)
                      have bx : -9223372036854775808 ≤ OW + X ∧ OW + X ≤ 9223372036854775807 := by omega
                      have mx : decide (X < 0) = true := decide_eq_true (by omega)
                      have by_ : -9223372036854775808 ≤ OH + Y ∧ OH + Y ≤ 9223372036854775807 := by omega
                      have my : decide (Y < 0) = true := decide_eq_true (by omega)
                      have dk1 : decide (0 < OW) = true := decide_eq_true k1
                      have dk2 : decide (0 < OH) = true := decide_eq_true k2
                      have dk3 : decide (X ≤ (a : Int)) = true := decide_eq_true k3
                      have dk4 : decide (Y ≤ (b : Int)) = true := decide_eq_true k4
                      have dk5 : decide (0 ≤ X) = false := decide_eq_false k5
                      have dk7 : decide ((a : Int) < OW + X) = true := decide_eq_true k7
                      have dk8 : decide (0 ≤ Y) = false := decide_eq_false k8
                      have dk10 : decide ((b : Int) < OH + Y) = true := decide_eq_true k10
                      have vx : IntKind.i64.wrap (OW + X) = OW + X := wrap_i64 _ bx.1 bx.2
                      have wx : wrap64 (OW + X) = OW + X := w64f _ bx.1 bx.2
                      have vy : IntKind.i64.wrap (OH + Y) = OH + Y := wrap_i64 _ by_.1 by_.2
                      have wy : wrap64 (OH + Y) = OH + Y := w64f _ by_.1 by_.2
                      clear bx
                      clear by_
                      have CS := Lib.hid (fun wd (k : Keeps none' wr wd) => set_solo2 wd Sb (D3.out.rb.later k) q' D3.out.pb D3.out.cb (by rw [D3.out.wb]; exact hW) (by rw [D3.out.hb]; exact hH) FX.out.1 a b v (by rw [D3.out.wb]; exact AB2.out.1) (by rw [D3.out.hb]; exact AB2.out.2) hv (zero_or FX.out.2 AB2.out.1 AB2.out.2))
                      rw [D3.out.bb] at CS
                      go_wp2_with fail
                      go_quiet (fail)
                      have KD := Lib.hid ((Keeps.refl none' wr).drewN nq)
                      clear b2 b3 b4 b5 b6 e1 e2 e3 e4 hW0 hW0'
                      generalize wr.drewN nq = wd at *
                      obtain ⟨b2, b3, b4, b5, b6⟩ := CL.out wd (BX.out wd (D3.out.keeps.trans KD.out (fun _ _ h => h)))
                      clear hx' hy' hw' hh'
                      go_upto_region 16 with (fail)
                      simp only [List.append_eq, List.cons_append, List.nil_append]
                      go_wp2_with fail
                      refine (CS.out wd KD.out).mono ?_
                      rintro e w7 ⟨rfl, Sc, q2, hm, hr, hk, hwet, hpx, hout⟩
                      have D4 := Lib.hid ((D3.out.later KD.out).stepB hm hr hk)
                      have FY := Lib.hid (And.intro hwet (show Pix X OW Y OH W H v (i + 1) Sc q2 from pix_yes D3.out.wb D3.out.hb FX.out.2 HI.out EA.out hpx hout))
                      clear hm hr hk hwet hpx hout CS D3 FX b2 b3 b4 b5 b6
                      go_wp2_with fail
                      go_roundw
                      case rel => exact ⟨i + 1, Sc, q2, hlt, by go_num, D4.out, FY.out.1, FY.out.2⟩
                      case measure => simp [intOf]; omega
                    · have HN := Lib.hid (show ¬ (Into X OW (i % W) ∧ Into Y OH (i / W)) by rw [← EA.out.1, ← EA.out.2]; unfold Into; omega)
                      have bx : -9223372036854775808 ≤ OW + X ∧ OW + X ≤ 9223372036854775807 := by omega
                      have mx : decide (X < 0) = true := decide_eq_true (by omega)
                      have by_ : -9223372036854775808 ≤ OH + Y ∧ OH + Y ≤ 9223372036854775807 := by omega
                      have my : decide (Y < 0) = true := decide_eq_true (by omega)
                      have dk1 : decide (0 < OW) = true := decide_eq_true k1
                      have dk2 : decide (0 < OH) = true := decide_eq_true k2
                      have dk3 : decide (X ≤ (a : Int)) = true := decide_eq_true k3
                      have dk4 : decide (Y ≤ (b : Int)) = true := decide_eq_true k4
                      have dk5 : decide (0 ≤ X) = false := decide_eq_false k5
                      have dk7 : decide ((a : Int) < OW + X) = true := decide_eq_true k7
                      have dk8 : decide (0 ≤ Y) = false := decide_eq_false k8
                      have dk10 : decide ((b : Int) < OH + Y) = false := decide_eq_false k10
                      have vx : IntKind.i64.wrap (OW + X) = OW + X := wrap_i64 _ bx.1 bx.2
                      have wx : wrap64 (OW + X) = OW + X := w64f _ bx.1 bx.2
                      have vy : IntKind.i64.wrap (OH + Y) = OH + Y := wrap_i64 _ by_.1 by_.2
                      have wy : wrap64 (OH + Y) = OH + Y := w64f _ by_.1 by_.2
                      clear bx
                      clear by_
                      go_wp2_with fail
                      go_quiet (fail)
                      have KD := Lib.hid ((Keeps.refl none' wr).drewN nq)
                      clear b2 b3 b4 b5 b6 e1 e2 e3 e4 hW0 hW0'
                      generalize wr.drewN nq = wd at *
                      obtain ⟨b2, b3, b4, b5, b6⟩ := CL.out wd (BX.out wd (D3.out.keeps.trans KD.out (fun _ _ h => h)))
                      clear hx' hy' hw' hh'
                      go_upto_region 16 with (fail)
                      simp only [List.append_eq, List.cons_append, List.nil_append]
                      go_wp2_with fail
                      go_roundw
                      case rel => exact ⟨i + 1, Sb, q', hlt, by go_num, D3.out.later KD.out, FX.out.1, pix_no HN.out FX.out.2⟩
                      case measure => simp [intOf]; omega
                · have HN := Lib.hid (show ¬ (Into X OW (i % W) ∧ Into Y OH (i / W)) by rw [← EA.out.1, ← EA.out.2]; unfold Into; omega)
                  have bx : -9223372036854775808 ≤ OW + X ∧ OW + X ≤ 9223372036854775807 := by omega
                  have mx : decide (X < 0) = true := decide_eq_true (by omega)
                  have dk1 : decide (0 < OW) = true := decide_eq_true k1
                  have dk2 : decide (0 < OH) = true := decide_eq_true k2
                  have dk3 : decide (X ≤ (a : Int)) = true := decide_eq_true k3
                  have dk4 : decide (Y ≤ (b : Int)) = true := decide_eq_true k4
                  have dk5 : decide (0 ≤ X) = false := decide_eq_false k5
                  have dk7 : decide ((a : Int) < OW + X) = false := decide_eq_false k7
                  have vx : IntKind.i64.wrap (OW + X) = OW + X := wrap_i64 _ bx.1 bx.2
                  have wx : wrap64 (OW + X) = OW + X := w64f _ bx.1 bx.2
                  clear bx
                  go_wp2_with fail
                  go_quiet (fail)
                  have KD := Lib.hid ((Keeps.refl none' wr).drewN nq)
                  clear b2 b3 b4 b5 b6 e1 e2 e3 e4 hW0 hW0'
                  generalize wr.drewN nq = wd at *
                  obtain ⟨b2, b3, b4, b5, b6⟩ := CL.out wd (BX.out wd (D3.out.keeps.trans KD.out (fun _ _ h => h)))
                  clear hx' hy' hw' hh'
                  go_upto_region 16 with (fail)
                  simp only [List.append_eq, List.cons_append, List.nil_append]
                  go_wp2_with fail
                  go_roundw
                  case rel => exact ⟨i + 1, Sb, q', hlt, by go_num, D3.out.later KD.out, FX.out.1, pix_no HN.out FX.out.2⟩
                  case measure => simp [intOf]; omega
            · have HN := Lib.hid (show ¬ (Into X OW (i % W) ∧ Into Y OH (i / W)) by rw [← EA.out.1, ← EA.out.2]; unfold Into; omega)
              have dk1 : decide (0 < OW) = true := decide_eq_true k1
              have dk2 : decide (0 < OH) = true := decide_eq_true k2
              have dk3 : decide (X ≤ (a : Int)) = true := decide_eq_true k3
              have dk4 : decide (Y ≤ (b : Int)) = false := decide_eq_false k4
              go_wp2_with fail
              go_quiet (fail)
              have KD := Lib.hid ((Keeps.refl none' wr).drewN nq)
              clear b2 b3 b4 b5 b6 e1 e2 e3 e4 hW0 hW0'
              generalize wr.drewN nq = wd at *
              obtain ⟨b2, b3, b4, b5, b6⟩ := CL.out wd (BX.out wd (D3.out.keeps.trans KD.out (fun _ _ h => h)))
              clear hx' hy' hw' hh'
              go_upto_region 16 with (fail)
              simp only [List.append_eq, List.cons_append, List.nil_append]
              go_wp2_with fail
              go_roundw
              case rel => exact ⟨i + 1, Sb, q', hlt, by go_num, D3.out.later KD.out, FX.out.1, pix_no HN.out FX.out.2⟩
              case measure => simp [intOf]; omega
          · have HN := Lib.hid (show ¬ (Into X OW (i % W) ∧ Into Y OH (i / W)) by rw [← EA.out.1, ← EA.out.2]; unfold Into; omega)
            have dk1 : decide (0 < OW) = true := decide_eq_true k1
            have dk2 : decide (0 < OH) = true := decide_eq_true k2
            have dk3 : decide (X ≤ (a : Int)) = false := decide_eq_false k3
            go_wp2_with fail
            go_quiet (fail)
            have KD := Lib.hid ((Keeps.refl none' wr).drewN nq)
            clear b2 b3 b4 b5 b6 e1 e2 e3 e4 hW0 hW0'
            generalize wr.drewN nq = wd at *
            obtain ⟨b2, b3, b4, b5, b6⟩ := CL.out wd (BX.out wd (D3.out.keeps.trans KD.out (fun _ _ h => h)))
            clear hx' hy' hw' hh'
            go_upto_region 16 with (fail)
            simp only [List.append_eq, List.cons_append, List.nil_append]
            go_wp2_with fail
            go_roundw
            case rel => exact ⟨i + 1, Sb, q', hlt, by go_num, D3.out.later KD.out, FX.out.1, pix_no HN.out FX.out.2⟩
            case measure => simp [intOf]; omega
        · have HN := Lib.hid (show ¬ (Into X OW (i % W) ∧ Into Y OH (i / W)) by rw [← EA.out.1, ← EA.out.2]; unfold Into; omega)
          have dk1 : decide (0 < OW) = true := decide_eq_true k1
          have dk2 : decide (0 < OH) = false := decide_eq_false k2
          go_wp2_with fail
          go_quiet (fail)
          have KD := Lib.hid ((Keeps.refl none' wr).drewN nq)
          clear b2 b3 b4 b5 b6 e1 e2 e3 e4 hW0 hW0'
          generalize wr.drewN nq = wd at *
          obtain ⟨b2, b3, b4, b5, b6⟩ := CL.out wd (BX.out wd (D3.out.keeps.trans KD.out (fun _ _ h => h)))
          clear hx' hy' hw' hh'
          go_upto_region 16 with (fail)
          simp only [List.append_eq, List.cons_append, List.nil_append]
          go_wp2_with fail
          go_roundw
          case rel => exact ⟨i + 1, Sb, q', hlt, by go_num, D3.out.later KD.out, FX.out.1, pix_no HN.out FX.out.2⟩
          case measure => simp [intOf]; omega
      · have HN := Lib.hid (show ¬ (Into X OW (i % W) ∧ Into Y OH (i / W)) by rw [← EA.out.1, ← EA.out.2]; unfold Into; omega)
        have dk1 : decide (0 < OW) = false := decide_eq_false k1
        go_wp2_with fail
        go_quiet (fail)
        have KD := Lib.hid ((Keeps.refl none' wr).drewN nq)
        clear b2 b3 b4 b5 b6 e1 e2 e3 e4 hW0 hW0'
        generalize wr.drewN nq = wd at *
        obtain ⟨b2, b3, b4, b5, b6⟩ := CL.out wd (BX.out wd (D3.out.keeps.trans KD.out (fun _ _ h => h)))
        clear hx' hy' hw' hh'
        go_upto_region 16 with (fail)
        simp only [List.append_eq, List.cons_append, List.nil_append]
        go_wp2_with fail
        go_roundw
        case rel => exact ⟨i + 1, Sb, q', hlt, by go_num, D3.out.later KD.out, FX.out.1, pix_no HN.out FX.out.2⟩
        case measure => simp [intOf]; omega
    · obtain rfl : i = M := by omega
      have SM := Lib.hid (pix_same HM.out PB.out.2.1 PB.out.2.2 PB.out.1 FP.out.2.1 FP.out.2.2 FX.out.2)
      have LN := Lib.hid (FP.out.1.tiles FX.out.1 D3.out.ra D3.out.rb (k := 0) (k' := 0) (by rw [D3.out.pa]; rfl) (by rw [D3.out.pb]; rfl) SM.out)
      have hWn : ¬ W = 0 := by omega
      clear b2 b3 b4 b5 b6 FP FX PB
      go_wp2_with fail
      obtain ⟨w8, rfl⟩ : ∃ w8 : World, w8 = wr := ⟨_, rfl⟩
      go_loopw [189] (fun cnt wl => ∃ j : Nat, j ≤ i ∧ cnt = .int .i64 j ∧ Keeps none' w8 wl) (fun cnt _ => i - (intOf cnt).toNat)
      case atStart => exact ⟨0, Nat.zero_le _, rfl, Keeps.refl none' w8⟩
      case round =>
        obtain ⟨j, hj, rfl, hk⟩ := hrel
        by_cases hlt : j < i
        · obtain ⟨a, ha⟩ : ∃ a, a = j % W := ⟨_, rfl⟩
          obtain ⟨b, hb⟩ : ∃ b, b = j / W := ⟨_, rfl⟩
          have haW : a < W := by rw [ha]; exact Nat.mod_lt _ (by omega)
          have hbH : b < H := by rw [hb]; exact Nat.div_lt_of_lt_mul (by rw [← HM.out]; exact hlt)
          have e1 : (j : Int) % (W : Int) = (a : Int) := by rw [ha]; simp
          have e2 : (j : Int) / (W : Int) = (b : Int) := by rw [hb]; simp
          have e3 : Int.tmod (j : Int) (W : Int) = (a : Int) := by rw [ha]; rfl
          have e4 : Int.tdiv (j : Int) (W : Int) = (b : Int) := by rw [hb]; rfl
          obtain ⟨z, hz⟩ : ∃ z, z = px Sa p' a b := ⟨_, rfl⟩
          have hz2 : z = px Sb q' a b := by rw [hz]; exact SM.out a b (by omega) (by omega)
          have CA := Lib.hid (fun w' (k : Kp w8 w') => show Calls Try.prog 14 #[.pointer (some ⟨p.pb, 0, none⟩), .int .i64 (a : Int), .int .i64 (b : Int)] w' fun e w'' => e = .returned (.int .i64 (z : Int)) ∧ Kp w8 w'' from by
            rw [← D3.out.ba, hz]
            exact (at_in w' Sa (D3.out.ra.later (show Keeps none' w8 w' from k)) 0 p' (by rw [D3.out.pa]; rfl) a b (by rw [D3.out.wa]; exact haW) (by rw [D3.out.ha]; exact hbH)).mono (fun e w'' h => ⟨h.1, (show Keeps none' w8 w' from k).trans h.2 (fun _ _ h => h)⟩))
          have CB := Lib.hid (fun w' (k : Kp w8 w') => show Calls Try.prog 14 #[.pointer (some ⟨q.pb, 0, none⟩), .int .i64 (a : Int), .int .i64 (b : Int)] w' fun e w'' => e = .returned (.int .i64 (z : Int)) ∧ Kp w8 w'' from by
            rw [← D3.out.bb, hz2]
            exact (at_in w' Sb (D3.out.rb.later (show Keeps none' w8 w' from k)) 0 q' (by rw [D3.out.pb]; rfl) a b (by rw [D3.out.wb]; exact haW) (by rw [D3.out.hb]; exact hbH)).mono (fun e w'' h => ⟨h.1, (show Keeps none' w8 w' from k).trans h.2 (fun _ _ h => h)⟩))
          have e5 : IntKind.i64.wrap (b : Int) = (b : Int) := wrap_i64 _ (by omega) (by omega)
          have kH : Kp w8 wr := hk
          have kD : Kp w8 wr.drew := hk.drew
          clear ha hb haW hbH hz hz2 hk
          go_wp2_with fail
          go_region_held3 (fun w' => Kp w8 w') (with_reducible assumption) (first | (go_at_call_of 14 (p.pb); refine (CA.out _ (by with_reducible assumption)).mono ?_; rintro e w' ⟨rfl, k⟩) | (go_at_call_of 14 (q.pb); refine (CB.out _ (by with_reducible assumption)).mono ?_; rintro e w' ⟨rfl, k⟩))
          clear CA CB kH kD e1 e2 e3 e4 e5
          go_wp2_with fail
          go_roundw
          case rel => exact ⟨j + 1, hlt, by go_num, show Kp w8 _ by with_reducible assumption⟩
          case measure => simp [intOf]; omega
        · obtain rfl : j = i := by omega
          have KW := Lib.hid (((HK.out.trans D3.out.keeps (fun _ _ h => h)).trans hk (fun _ _ h => h)))
          have ra := D3.out.ra.later hk
          have rb := D3.out.rb.later hk
          have c1 := tilesN_any wr Sa ra 0 p' (by rw [D3.out.pa]; rfl)
          have c2 := tilesN_any wr Sb rb 0 q' (by rw [D3.out.pb]; rfl)
          have c3 := free_any wr Sa ra
          have c4 := free_any wr Sb rb
          rw [free_solo ra D3.out.pa D3.out.ca, D3.out.aa] at c3
          rw [free_solo rb D3.out.pb D3.out.cb, D3.out.ab, ← LN.out] at c4
          rw [D3.out.ba] at c1
          rw [D3.out.bb, ← LN.out] at c2
          have CC := Lib.hid (And.intro c1 (And.intro c2 (And.intro c3 c4)))
          clear c1 c2 c3 c4 ra rb hk D3 SM LN
          obtain ⟨L, hL⟩ : ∃ L, L = p'.L.length := ⟨_, rfl⟩
          rw [← hL] at CC
          clear hL
          go_wp2_with fail
          refine CC.out.1.mono ?_
          rintro e w9 ⟨rfl, rfl⟩
          go_wp2_with fail
          refine CC.out.2.1.mono ?_
          rintro e w9 ⟨rfl, rfl⟩
          go_wp2_with fail
          refine CC.out.2.2.1.mono ?_
          rintro e w9 ⟨rfl, rfl⟩
          go_wp2_with fail
          refine CC.out.2.2.2.mono ?_
          rintro e w9 ⟨rfl, rfl⟩
          go_wp2_with fail
          go_ret
          exact ⟨rfl, KW.out⟩

theorem fills_law (Kd Nn X Y OW OH V W H : Int) (w : World) (hx : I64 X) (hy : I64 Y) (hw : I64 OW) (hh : I64 OH) : Calls Try.prog 6 #[.agg #[.int .i64 Kd, .int .i64 Nn, .int .i64 X, .int .i64 Y, .int .i64 OW, .int .i64 OH, .int .i64 V], .int .i64 W, .int .i64 H] w (Yes w) := by
  by_cases h : 1 ≤ W ∧ 1 ≤ H ∧ W ≤ 40 ∧ H ≤ 40 ∧ 0 ≤ V ∧ V < 4294967296
  · obtain ⟨v, rfl⟩ := Int.eq_ofNat_of_zero_le h.2.2.2.2.1
    obtain ⟨W', rfl⟩ := Int.eq_ofNat_of_zero_le (show 0 ≤ W by omega)
    obtain ⟨H', rfl⟩ := Int.eq_ofNat_of_zero_le (show 0 ≤ H by omega)
    exact fills_good Kd Nn X Y OW OH v W' H' w hx hy hw hh (by omega) (by omega) (by omega) (by omega) (by omega)
  · exact fills_bad Kd Nn X Y OW OH V W H w h
end Go.Proofs.Ytgonpaofickffaa
