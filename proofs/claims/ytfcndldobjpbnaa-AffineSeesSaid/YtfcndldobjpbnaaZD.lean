/- A picture seen through a map: the document. (printed by genZ.py) -/
import Derived.Test.YtfcndldobjpbnaaYD
import Derived.Test.YtfcndldobjpbnaaXF
namespace Go.Proofs.Ytfcndldobjpbnaa
open Go.RowKit Go.Maps
set_option linter.unusedVariables false

set_option maxRecDepth 100000 in
set_option maxHeartbeats 3200000 in
theorem seeD_far (W H : Int) (a : Option Addr) (n c : Nat) (zs : List Int) (m : Af.M) (pw ph : Int) (s : Bool) (w : World) (hb : (Af.backE m).2 = 0) (hs : Af.sizeOk pw ph) (hz : Ints w a n zs) (hn : n ≤ 16777216) (hp : PicOk W H zs) :
    Calls Try.prog 23 #[.agg #[.int .i64 W, .int .i64 H, .slice a n c], .agg #[.int .i64 m.a, .int .i64 m.b, .int .i64 m.c, .int .i64 m.d, .int .i64 m.e, .int .i64 m.f], .int .i64 pw, .int .i64 ph, .bool s] w (SeeFar pw ph (pw.toNat * ph.toNat) (Af.seenTo W H zs (Af.backE m).1 s pw.toNat (pw.toNat * ph.toNat)) w) := by
  have BK := Lib.hid (fun w => docBack_any m w)
  obtain ⟨hmo, hma, hbo, hb2⟩ := Af.back_ok hb
  obtain ⟨q, hq⟩ : ∃ q, (Af.backE m).1 = q := ⟨_, rfl⟩
  have hqo : q.ok := by rw [← hq, hb2]; exact hbo
  rw [hb, hq] at BK
  rw [hq]
  clear hb hb2 hq hmo hma hbo
  obtain ⟨iw, rfl⟩ : ∃ i : Nat, pw = i := ⟨pw.toNat, by have := hs.1.1; omega⟩
  obtain ⟨ih, rfl⟩ : ∃ i : Nat, ph = i := ⟨ph.toNat, by have := hs.2.1.1; omega⟩
  simp only [Int.toNat_natCast]
  have ws : (iw : Int) ≤ 32768 := hs.1.2
  have hs' : (ih : Int) ≤ 32768 := hs.2.1.2
  have ha : (iw : Int) * ih ≤ 4194304 := hs.2.2
  obtain ⟨N, hN⟩ : ∃ N : Nat, N = iw * ih := ⟨_, rfl⟩
  have hN2 : (iw : Int) * ih = (N : Int) := by rw [hN]; simp
  have wN : IntKind.i64.wrap ((iw : Int) * ih) = (N : Int) := by rw [hN2]; exact wrap_i64 _ (by omega) (by omega)
  have t0 : decide ((iw : Int) < 0) = false := by simp
  have t1 : decide ((ih : Int) < 0) = false := by simp
  have t4 : decide (4194304 < (N : Int)) = false := by simp; omega
  have t4' : decide (4194304 < N) = false := by simp; omega
  have t2 : decide (32768 < (iw : Int)) = false := by simp; omega
  have t2' : decide (32768 < iw) = false := by simp; omega
  have t3 : decide (32768 < (ih : Int)) = false := by simp; omega
  have t3' : decide (32768 < ih) = false := by simp; omega
  have NB : N ≤ 4194304 := by omega
  have wb : iw ≤ 32768 := by omega
  have hb : ih ≤ 32768 := by omega
  have IR := Lib.hid (fun w' (k : Keeps none' w w') => docPic_any W H a n c zs w' (hz.later k) hn true ⟨fun _ => hp, fun _ => rfl⟩)
  have HN := Lib.hid hN
  have HZ := Lib.hid hz
  have HP := Lib.hid hp
  have HQ := Lib.hid hqo
  clear hs hn hp hz hN hN2 ha ws hs' hqo
  have E0 := Lib.hid (DoorD.new w W H a n c m)
  go_enter Try.func23, Try.ntmps23
  go_upto_region 1 with (fail)
  obtain ⟨A, hA⟩ : ∃ A, A = w.heap.size := ⟨_, rfl⟩
  obtain ⟨B, hB⟩ : ∃ B, B = A + 1 := ⟨_, rfl⟩
  obtain ⟨R, hR⟩ : ∃ R, R = B + 1 := ⟨_, rfl⟩
  rw [← hA, ← hB, ← hR] at E0
  rw [← hA, ← hB, ← hR]
  clear hA hB hR
  generalize ((w.alloc (.cells #[.int .i64 W, .int .i64 H, .slice a n c] 47)).alloc (.cells #[.int .i64 m.a, .int .i64 m.b, .int .i64 m.c, .int .i64 m.d, .int .i64 m.e, .int .i64 m.f] 28)).alloc (.cells #[.int .i64 0, .int .i64 0, .slice none 0 0] 47) = w1 at *
  have c0 := E0.out.map.c0
  have c1 := E0.out.map.c1
  have c2 := E0.out.map.c2
  have c3 := E0.out.map.c3
  have c4 := E0.out.map.c4
  have c5 := E0.out.map.c5
  go_wp2_with fail
  refine (BK.out _).mono ?_
  rintro e w2 ⟨rfl, hk⟩
  have E1 := Lib.hid ((E0.out.later hk).later (keeps_alloc (o := .cells #[.int .i64 q.a, .int .i64 q.b, .int .i64 q.c, .int .i64 q.d, .int .i64 q.e, .int .i64 q.f] 28) rfl))
  have Y0 := Lib.hid (Six.new w2 28 q)
  clear hk E0 c0 c1 c2 c3 c4 c5 BK
  go_upto_region 4 with (fail)
  have E2 := Lib.hid E1.out
  have Y2 := Lib.hid Y0.out
  clear E1 Y0
  generalize w2.alloc (.cells #[.int .i64 q.a, .int .i64 q.b, .int .i64 q.c, .int .i64 q.d, .int .i64 q.e, .int .i64 q.f] 28) = w3 at *
  generalize w2.heap.size = D at *
  have k0 := E2.out.pic.c0
  have k1 := E2.out.pic.c1
  have k2 := E2.out.pic.c2
  go_wp2_with fail
  refine (IR.out _ E2.out.keeps).mono ?_
  rintro e w4 ⟨rfl, hk⟩
  have E3 := Lib.hid (E2.out.later hk)
  have Y3 := Lib.hid (Y2.out.later hk)
  clear hk E2 Y2 k0 k1 k2 IR
  have T0 := Lib.hid (Seen.start (ty := 47) (mt := 28) (pw := (iw : Int)) (ph := (ih : Int)) E3.out.pic Y3.out E3.out.res E3.out.keeps E3.out.low (own_nil w4 w4.heap.size) (Below.refl _ _) (by decide) (by decide))
  clear E3 Y3
  go_upto_region 9 with (fail)
  generalize w4.alloc (.cells #[.int .i64 (iw : Int), .int .i64 (ih : Int), .slice none 0 0] 47) = w6 at *
  generalize w4.heap.size = G at *
  obtain ⟨N0, hN0⟩ : ∃ N0, N0 = G := ⟨_, rfl⟩
  have T1 := Lib.hid (show Seen w 47 28 A D R G N0 W H a n c q iw ih [] none 0 0 w6 by rw [hN0]; exact T0.out)
  clear T0 hN0
  have T0 := Lib.hid T1.out
  clear T1
  go_wp2_with fail
  go_loopw [15] (fun cnt wr => ∃ (y : Nat) (aa : Option Addr) (cap : Nat), y ≤ ih ∧ cnt = .int .i64 y ∧ Seen w 47 28 A D R G N0 W H a n c q iw ih (Af.seenTo W H zs q s iw (y * iw)) aa (y * iw) cap wr) (fun cnt _ => ih - (intOf cnt).toNat)
  case atStart => exact ⟨0, none, 0, Nat.zero_le _, rfl, by rw [Nat.zero_mul]; exact T0.out⟩
  case round =>
    obtain ⟨y, aa, cap, hy, rfl, hT⟩ := hrel
    have T := Lib.hid hT
    clear hT T0
    by_cases hlt : y < ih
    · obtain ⟨wo, hwo⟩ : ∃ wo : World, wo = wr := ⟨_, rfl⟩
      rw [← hwo] at T
      rw [← hwo]
      clear hwo
      go_wp2_with fail
      go_loopw [16] (fun cnt wr => ∃ (x : Nat) (aa : Option Addr) (cap : Nat), x ≤ iw ∧ cnt = .int .i64 x ∧ Seen w 47 28 A D R G N0 W H a n c q iw ih (Af.seenTo W H zs q s iw (y * iw + x)) aa (y * iw + x) cap wr) (fun cnt _ => iw - (intOf cnt).toNat)
      case atStart => exact ⟨0, aa, cap, Nat.zero_le _, rfl, T.out⟩
      case round =>
        obtain ⟨x, aa1, cap1, hx, rfl, hT⟩ := hrel
        have U := Lib.hid hT
        clear hT T
        by_cases hlx : x < iw
        · have HI := Lib.hid (show y * iw + x < N from by
            have h1 : (y + 1) * iw ≤ ih * iw := Nat.mul_le_mul_right _ hlt
            rw [HN.out, Nat.mul_comm iw ih]
            rw [Nat.add_mul, Nat.one_mul] at h1
            omega)
          have hs := Af.seenTo_next W H zs q s iw y x hlx
          have hv := seen_num HP.out q s (x : Int) (y : Int)
          have hvv : Af.seen W H zs q s (x : Int) (y : Int) = Af.look W H zs s (Af.goU q x y) (Af.goV q x y) := rfl
          obtain ⟨⟨g0, g1⟩, ⟨g2, g3⟩, ⟨g4, g5⟩, g6, g7⟩ := go_far HQ.out (show Spot (x : Int) from by unfold Spot; omega) (show Spot (y : Int) from by unfold Spot; omega)
          have eu : Af.slopeU q (2 * (x : Int) + 1) (2 * (y : Int) + 1) / 2 + q.e = Af.goU q x y := rfl
          have ev : Af.slopeV q (2 * (x : Int) + 1) (2 * (y : Int) + 1) / 2 + q.f = Af.goV q x y := rfl
          have ru : Af.slopeU q (2 * (x : Int) + 1) (2 * (y : Int) + 1) = q.a * (2 * (x : Int) + 1) + q.b * (2 * (y : Int) + 1) := rfl
          have rv : Af.slopeV q (2 * (x : Int) + 1) (2 * (y : Int) + 1) = q.c * (2 * (x : Int) + 1) + q.d * (2 * (y : Int) + 1) := rfl
          generalize Af.slopeU q (2 * (x : Int) + 1) (2 * (y : Int) + 1) = su at *
          generalize Af.slopeV q (2 * (x : Int) + 1) (2 * (y : Int) + 1) = sv at *
          generalize Af.goU q x y = u at *
          generalize Af.goV q x y = v' at *
          obtain ⟨hA, hB, hC, hD, ⟨be0, be1⟩, bf0, bf1⟩ := HQ.out
          have xx : Af.Up (2 * (x : Int) + 1) 131073 := ⟨by omega, by omega⟩
          have yy : Af.Up (2 * (y : Int) + 1) 131073 := ⟨by omega, by omega⟩
          obtain ⟨m0, m1⟩ := Af.up_mul hA xx (by omega) (by omega)
          obtain ⟨m2, m3⟩ := Af.up_mul hB yy (by omega) (by omega)
          obtain ⟨m4, m5⟩ := Af.up_mul hC xx (by omega) (by omega)
          obtain ⟨m6, m7⟩ := Af.up_mul hD yy (by omega) (by omega)
          clear hA hB hC hD
          have w1 := wrap_i64 (2 * (x : Int) + 1) (by omega) (by omega)
          have w2 := wrap_i64 (2 * (y : Int) + 1) (by omega) (by omega)
          have w1' := wrap_i64 (2 * (x : Int)) (by omega) (by omega)
          have w2' := wrap_i64 (2 * (y : Int)) (by omega) (by omega)
          have w3 := wrap_i64 (q.a * (2 * (x : Int) + 1)) (by omega) (by omega)
          have w4' := wrap_i64 (q.b * (2 * (y : Int) + 1)) (by omega) (by omega)
          have w5' := wrap_i64 (q.c * (2 * (x : Int) + 1)) (by omega) (by omega)
          have w6' := wrap_i64 (q.d * (2 * (y : Int) + 1)) (by omega) (by omega)
          have w7 : IntKind.i64.wrap (q.a * (2 * (x : Int) + 1) + q.b * (2 * (y : Int) + 1)) = su := by rw [← ru]; exact wrap_i64 _ (by omega) (by omega)
          have w8 : IntKind.i64.wrap (q.c * (2 * (x : Int) + 1) + q.d * (2 * (y : Int) + 1)) = sv := by rw [← rv]; exact wrap_i64 _ (by omega) (by omega)
          have wu : IntKind.i64.wrap (su / 2 + q.e) = u := by rw [eu]; exact wrap_i64 _ (by omega) (by omega)
          have wv : IntKind.i64.wrap (sv / 2 + q.f) = v' := by rw [ev]; exact wrap_i64 _ (by omega) (by omega)
          have Q1 := Lib.hid (fun w => docDown_any su 2 (by unfold Up'; omega) (by omega) (by omega) w)
          have Q2 := Lib.hid (fun w => docDown_any sv 2 (by unfold Up'; omega) (by omega) (by omega) w)
          have HVV := Lib.hid hvv
          clear eu ev ru rv m0 m1 m2 m3 m4 m5 m6 m7 be0 be1 bf0 bf1 xx yy hvv
          have d0 := U.out.map.c0
          have d1 := U.out.map.c1
          have d4 := U.out.map.c4
          go_upto_region 15 with (fail)
          go_quiet ((go_at_call 21; exact Calls.quiet_of_same (Q1.out _)))
          have U1 := Lib.hid (U.out.later ((Keeps.refl none' wr).drewN nq))
          clear U d0 d1 d4 Q1 w3 w4' w7 wu g0 g1
          generalize wr.drewN nq = wq at *
          have d2 := U1.out.map.c2
          have d3 := U1.out.map.c3
          have d5 := U1.out.map.c5
          go_upto_region 16 with (fail)
          go_quiet ((go_at_call 21; exact Calls.quiet_of_same (Q2.out _)))
          have U := Lib.hid (U1.out.later ((Keeps.refl none' wq).drewN nq))
          clear U1 d2 d3 d5 Q2 w5' w6' w8 wv w1 w2 w1' w2' g2 g3
          generalize wq.drewN nq = wt at *
          have HV := Lib.hid (show -9223372036854775808 ≤ Af.seen W H zs q s (x : Int) (y : Int) ∧ Af.seen W H zs q s (x : Int) (y : Int) ≤ 9223372036854775807 from by unfold Af.Num at hv; omega)
          have HS := Lib.hid hs
          clear hs hv
          have a0 := U.out.pic.c0
          have a1 := U.out.pic.c1
          have a2 := U.out.pic.c2
          have g2 := U.out.hdr.c2
          have j2 := U.out.hdr.fr (i := 2)
          generalize hK : y * iw + x = K at *
          have HK := Lib.hid hK
          clear hK
          have UD := Lib.hid (U.out.later (Keeps.refl none' wt).drew)
          cases s
          · have CA := Lib.hid (fun w' (k : Keeps none' w w') => docAt_any W H a n c zs (u / 65536) (v' / 65536) w' (HZ.out.later k) HP.out (by unfold Far; omega) (by unfold Far; omega))
            have D1 := Lib.hid (fun w => docDown_any u 65536 (by unfold Up'; omega) (by omega) (by omega) w)
            have D2 := Lib.hid (fun w => docDown_any v' 65536 (by unfold Up'; omega) (by omega) (by omega) w)
            have HL := Lib.hid (show Af.picAt W H zs (u / 65536) (v' / 65536) = Af.seen W H zs q false (x : Int) (y : Int) from HVV.out.symm)
            rw [HL.out] at CA
            clear HL HVV
            generalize Af.seen W H zs q false (x : Int) (y : Int) = v at *
            go_upto_region 19 with (fail)
            have CB := Lib.hid (CA.out _ UD.out.keeps)
            clear CA g4 g5 g6 g7
            generalize u / 65536 = px at *
            generalize v' / 65536 = py at *
            have CALL := Lib.hid (fun w2 (hk : Keeps none' wt.drew w2) => (UD.out.later hk).later (keeps_alloc (o := .cells #[.int .i64 v] 3) rfl))
            go_region_law (first
              | (go_simp; with_reducible refine (D1.out _).mono ?_; rintro e w2 ⟨rfl, rfl⟩)
              | (go_simp; with_reducible refine (D2.out _).mono ?_; rintro e w2 ⟨rfl, rfl⟩)
              | (go_simp; refine CB.out.mono ?_; rintro e w2 ⟨rfl, hk⟩; have V0 := Lib.hid (UD.out.later hk); have V1 := Lib.hid (CALL.out _ hk); have g2' := V0.out.hdr.c2; have g3' := V1.out.hdr.c2; have j3' := V1.out.hdr.fr (i := 2); clear hk)
              | (refine step_append_ints (by rfl) (.tmp 111) (.tmp 118) (by rfl) N0 K (.slice aa1 K cap1) (Af.seenTo W H zs q false iw K) (by rfl) V1.out.own (some ⟨_, 0, none⟩) 1 1 [v] (by rfl) (one_ints _ v HV.out) (by intro e; cases e) (by have := HI.out; omega) (by omega) V1.out.low.2.2.2 ?_; intro aa2 cap2 w4 hown2 hg2 hat2; have V2 := Lib.hid (V1.out.step (by rw [← HS.out] at hown2; exact hown2) hg2); have j4' := (V1.out.hdr.grown (by decide) V1.out.own hg2).fr (i := 2); have j5' := (V1.out.hdr.grown (by decide) V1.out.own hg2).c2; clear hown2 hg2 hat2))
            all_goals
              have X := Lib.hid V2.out
              clear U UD CB CALL V0 V1 V2 a0 a1 a2 g2 j2 g2' g3' j3' j4' j5'
              generalize World.setCell _ _ _ = wz at *
              go_wp2_with fail
              go_roundw
              case rel => exact ⟨x + 1, aa2, cap2, by omega, by go_num, by rw [← Nat.add_assoc, HK.out]; exact X.out⟩
              case measure => simp [intOf]; omega
          · have CA := Lib.hid (fun w' (k : Keeps none' w w') => docSmooth_any W H a n c zs u v' w' (HZ.out.later k) HP.out (by unfold Far; omega) (by unfold Far; omega))
            have HL := Lib.hid (show Af.smooth W H zs (u - 32768) (v' - 32768) = Af.seen W H zs q true (x : Int) (y : Int) from HVV.out.symm)
            rw [HL.out] at CA
            clear HL HVV
            generalize Af.seen W H zs q true (x : Int) (y : Int) = v at *
            go_upto_region 18 with (fail)
            have CB := Lib.hid (CA.out _ UD.out.keeps)
            clear CA g4 g5 g6 g7
            have CALL := Lib.hid (fun w2 (hk : Keeps none' wt.drew w2) => (UD.out.later hk).later (keeps_alloc (o := .cells #[.int .i64 v] 3) rfl))
            go_region_law (first
              | (go_simp; refine CB.out.mono ?_; rintro e w2 ⟨rfl, hk⟩; have V0 := Lib.hid (UD.out.later hk); have V1 := Lib.hid (CALL.out _ hk); have g2' := V0.out.hdr.c2; have g3' := V1.out.hdr.c2; have j3' := V1.out.hdr.fr (i := 2); clear hk)
              | (refine step_append_ints (by rfl) (.tmp 102) (.tmp 107) (by rfl) N0 K (.slice aa1 K cap1) (Af.seenTo W H zs q true iw K) (by rfl) V1.out.own (some ⟨_, 0, none⟩) 1 1 [v] (by rfl) (one_ints _ v HV.out) (by intro e; cases e) (by have := HI.out; omega) (by omega) V1.out.low.2.2.2 ?_; intro aa2 cap2 w4 hown2 hg2 hat2; have V2 := Lib.hid (V1.out.step (by rw [← HS.out] at hown2; exact hown2) hg2); have j4' := (V1.out.hdr.grown (by decide) V1.out.own hg2).fr (i := 2); have j5' := (V1.out.hdr.grown (by decide) V1.out.own hg2).c2; clear hown2 hg2 hat2))
            all_goals
              have X := Lib.hid V2.out
              clear U UD CB CALL V0 V1 V2 a0 a1 a2 g2 j2 g2' g3' j3' j4' j5'
              generalize World.setCell _ _ _ = wz at *
              go_wp2_with fail
              go_roundw
              case rel => exact ⟨x + 1, aa2, cap2, by omega, by go_num, by rw [← Nat.add_assoc, HK.out]; exact X.out⟩
              case measure => simp [intOf]; omega
        · obtain rfl : x = iw := by omega
          have t9 : decide (x < x) = false := by simp
          have X := Lib.hid U.out
          have e9 := Lib.hid (show (y + 1) * x = y * x + x from by rw [Nat.add_mul, Nat.one_mul])
          clear U
          go_wp2_with fail
          go_roundw
          case rel => exact ⟨y + 1, aa1, cap1, by omega, by go_num, by rw [e9.out]; exact X.out⟩
          case measure => simp [intOf]; omega
    · obtain rfl : y = ih := by omega
      have t9 : decide (y < y) = false := by simp
      have X := Lib.hid (show Seen w 47 28 A D R G N0 W H a n c q iw y (Af.seenTo W H zs q s iw (y * iw)) aa (y * iw) cap wr from T.out)
      clear T
      have g0 := X.out.hdr.c0
      have g1 := X.out.hdr.c1
      have g2 := X.out.hdr.c2
      have r0 := X.out.res.c0
      have r1 := X.out.res.c1
      have r2 := X.out.res.c2
      have f0 := X.out.res.fr (i := 0)
      have f1 := X.out.res.fr (i := 1)
      have f2 := X.out.res.fr (i := 2)
      have U := Lib.hid (X.out.res.all iw y aa (y * iw) cap)
      have V := Lib.hid (X.out.keeps.pic X.out.low.1 iw y aa (y * iw) cap)
      have Z := Lib.hid (X.out.told (seenTo_bounds HP.out q s iw _))
      have ZF := Lib.hid (X.out.far (seenTo_bounds HP.out q s iw _))
      go_wp2_with fail
      refine bodyPost_ret (results_cell_row2 rfl _ _ R 47 #[.int .i64 (iw : Int), .int .i64 (y : Int), .slice aa (y * iw) cap] (0, 0) _ rfl U.out Try.underlying47 rfl (by kernel_rfl)) rfl ?_
      rw [Nat.mul_comm iw y]
      exact ⟨aa, cap, rfl, Z.out, V.out, ZF.out⟩
theorem seeD_good (W H : Int) (a : Option Addr) (n c : Nat) (zs : List Int) (m : Af.M) (pw ph : Int) (s : Bool) (w : World) (hb : (Af.backE m).2 = 0) (hs : Af.sizeOk pw ph) (hz : Ints w a n zs) (hn : n ≤ 16777216) (hp : PicOk W H zs) :
    Calls Try.prog 23 #[.agg #[.int .i64 W, .int .i64 H, .slice a n c], .agg #[.int .i64 m.a, .int .i64 m.b, .int .i64 m.c, .int .i64 m.d, .int .i64 m.e, .int .i64 m.f], .int .i64 pw, .int .i64 ph, .bool s] w (SeeOk pw ph (pw.toNat * ph.toNat) (Af.seenTo W H zs (Af.backE m).1 s pw.toNat (pw.toNat * ph.toNat)) w) :=
  (seeD_far W H a n c zs m pw ph s w hb hs hz hn hp).mono fun e w' h => h.near
end Go.Proofs.Ytfcndldobjpbnaa
