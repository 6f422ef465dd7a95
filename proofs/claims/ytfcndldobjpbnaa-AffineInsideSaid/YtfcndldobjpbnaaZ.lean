/- A picture seen through a map. (printed by genZ.py) -/
import Derived.Test.YtfcndldobjpbnaaY
import Derived.Test.YtfcndldobjpbnaaXF
namespace Go.Proofs.Ytfcndldobjpbnaa
open Go.RowKit Go.Maps
set_option linter.unusedVariables false

set_option maxRecDepth 100000 in
set_option maxHeartbeats 3200000 in
theorem seeP_far (W H : Int) (a : Option Addr) (n c : Nat) (zs : List Int) (m : Af.M) (pw ph : Int) (s : Bool) (w : World) (hb : (Af.backE m).2 = 0) (hs : Af.sizeOk pw ph) (hz : Ints w a n zs) (hn : n ≤ 16777216) (hp : PicOk W H zs) :
    Calls Try.prog 22 #[.agg #[.int .i64 W, .int .i64 H, .slice a n c], .agg #[.int .i64 m.a, .int .i64 m.b, .int .i64 m.c, .int .i64 m.d, .int .i64 m.e, .int .i64 m.f], .int .i64 pw, .int .i64 ph, .bool s] w (SeeFar pw ph (pw.toNat * ph.toNat) (Af.seenTo W H zs (Af.backE m).1 s pw.toNat (pw.toNat * ph.toNat)) w) := by
  have BK := Lib.hid (fun w => back_any m w)
  obtain ⟨hmo, hma, hbo, hb2⟩ := Af.back_ok hb
  obtain ⟨q, hq⟩ : ∃ q, (Af.backE m).1 = q := ⟨_, rfl⟩
  have hqo : q.ok := by rw [← hq, hb2]; exact hbo
  rw [hb, hq] at BK
  rw [hq]
  clear hb hb2 hq hmo hma hbo
  obtain ⟨iw, rfl⟩ : ∃ i : Nat, pw = i := ⟨pw.toNat, by have := hs.1.1; omega⟩
  obtain ⟨ih, rfl⟩ : ∃ i : Nat, ph = i := ⟨ph.toNat, by have := hs.2.1.1; omega⟩
  simp only [Int.toNat_natCast]
  have S1 := Lib.hid (fun w => side_yes hs.1 w)
  have S2 := Lib.hid (fun w => side_yes hs.2.1 w)
  have ws : (iw : Int) ≤ 32768 := hs.1.2
  have hs' : (ih : Int) ≤ 32768 := hs.2.1.2
  have ha : (iw : Int) * ih ≤ 4194304 := hs.2.2
  obtain ⟨N, hN⟩ : ∃ N : Nat, N = iw * ih := ⟨_, rfl⟩
  have hN2 : (iw : Int) * ih = (N : Int) := by rw [hN]; simp
  have wN : IntKind.i64.wrap ((iw : Int) * ih) = (N : Int) := by rw [hN2]; exact wrap_i64 _ (by omega) (by omega)
  have t1 : decide (4194304 < (N : Int)) = false := by simp; omega
  have t1' : decide (4194304 < N) = false := by simp; omega
  have NB : N ≤ 4194304 := by omega
  have wb : iw ≤ 32768 := by omega
  have hb : ih ≤ 32768 := by omega
  have IR := Lib.hid (fun w' (k : Keeps none' w w') => isRight_any W H a n c zs w' (hz.later k) hn true ⟨fun _ => hp, fun _ => rfl⟩)
  have HN := Lib.hid hN
  have HZ := Lib.hid hz
  have HP := Lib.hid hp
  have HQ := Lib.hid hqo
  clear hs hn hp hz hN hN2 ha ws hs' hqo
  have E0 := Lib.hid (DoorP.new w W H a n c m)
  go_enter Try.func22, Try.ntmps22
  go_upto_region 1 with (fail)
  obtain ⟨A, hA⟩ : ∃ A, A = w.heap.size := ⟨_, rfl⟩
  obtain ⟨B, hB⟩ : ∃ B, B = A + 1 := ⟨_, rfl⟩
  obtain ⟨R, hR⟩ : ∃ R, R = B + 1 := ⟨_, rfl⟩
  rw [← hA, ← hB, ← hR] at E0
  rw [← hA, ← hB, ← hR]
  clear hA hB hR
  generalize ((w.alloc (.cells #[.int .i64 W, .int .i64 H, .slice a n c] 44)).alloc (.cells #[.int .i64 m.a, .int .i64 m.b, .int .i64 m.c, .int .i64 m.d, .int .i64 m.e, .int .i64 m.f] 23)).alloc (.cells #[.int .i64 0, .int .i64 0, .slice none 0 0] 44) = w1 at *
  have c0 := E0.out.map.c0
  have c1 := E0.out.map.c1
  have c2 := E0.out.map.c2
  have c3 := E0.out.map.c3
  have c4 := E0.out.map.c4
  have c5 := E0.out.map.c5
  go_wp2_with fail
  refine (BK.out _).mono ?_
  rintro e w2 ⟨rfl, hk⟩
  have E1 := Lib.hid ((E0.out.later hk).later (keeps_alloc (o := .cells #[.int .i64 q.a, .int .i64 q.b, .int .i64 q.c, .int .i64 q.d, .int .i64 q.e, .int .i64 q.f] 23) rfl))
  have Y0 := Lib.hid (Six.new w2 23 q)
  clear hk E0 c0 c1 c2 c3 c4 c5 BK
  go_upto_region 4 with (fail)
  have E2 := Lib.hid E1.out
  have Y2 := Lib.hid Y0.out
  clear E1 Y0
  generalize w2.alloc (.cells #[.int .i64 q.a, .int .i64 q.b, .int .i64 q.c, .int .i64 q.d, .int .i64 q.e, .int .i64 q.f] 23) = w3 at *
  generalize w2.heap.size = D at *
  have k0 := E2.out.pic.c0
  have k1 := E2.out.pic.c1
  have k2 := E2.out.pic.c2
  go_wp2_with fail
  refine (S1.out _).mono ?_
  rintro e w3 ⟨rfl, rfl⟩
  go_wp2_with fail
  refine (S2.out _).mono ?_
  rintro e w3 ⟨rfl, rfl⟩
  go_wp2_with fail
  refine (IR.out _ E2.out.keeps).mono ?_
  rintro e w4 ⟨rfl, hk⟩
  have E3 := Lib.hid (E2.out.later hk)
  have Y3 := Lib.hid (Y2.out.later hk)
  clear hk E2 Y2 k0 k1 k2 IR
  clear S1 S2 t1 t1'
  go_wp2_with (at_make; go_must (refine wpList_make_cap rfl (.const (.int .i64 0)) (.tmp 49) rfl N rfl ?c1 (by omega) ?c2))
  case c1 => rfl
  case c2 =>
    intro w5 hown hbel hsz
    have T0 := Lib.hid (Seen.start (ty := 44) (mt := 23) (pw := (iw : Int)) (ph := (ih : Int)) E3.out.pic Y3.out E3.out.res E3.out.keeps E3.out.low hown hbel (by decide) (by decide))
    clear hown hbel hsz E3 Y3
    go_upto_region 9 with (fail)
    generalize w4.heap.size = N0 at *
    generalize w5.alloc (.cells #[.int .i64 (iw : Int), .int .i64 (ih : Int), .slice (some ⟨N0, 0, none⟩) 0 N] 44) = w6 at *
    generalize w5.heap.size = G at *
    go_wp2_with fail
    go_loopw [53] (fun cnt wr => ∃ (y : Nat) (aa : Option Addr) (cap : Nat), y ≤ ih ∧ cnt = .int .i64 y ∧ Seen w 44 23 A D R G N0 W H a n c q iw ih (Af.seenTo W H zs q s iw (y * iw)) aa (y * iw) cap wr) (fun cnt _ => ih - (intOf cnt).toNat)
    case atStart => exact ⟨0, some ⟨N0, 0, none⟩, N, Nat.zero_le _, rfl, by rw [Nat.zero_mul]; exact T0.out⟩
    case round =>
      obtain ⟨y, aa, cap, hy, rfl, hT⟩ := hrel
      have T := Lib.hid hT
      clear hT T0
      by_cases hlt : y < ih
      · obtain ⟨wo, hwo⟩ : ∃ wo : World, wo = wr := ⟨_, rfl⟩
        rw [← hwo] at T
        rw [← hwo]
        clear hwo
        go_wp2_with fail
        go_loopw [57] (fun cnt wr => ∃ (x : Nat) (aa : Option Addr) (cap : Nat), x ≤ iw ∧ cnt = .int .i64 x ∧ Seen w 44 23 A D R G N0 W H a n c q iw ih (Af.seenTo W H zs q s iw (y * iw + x)) aa (y * iw + x) cap wr) (fun cnt _ => iw - (intOf cnt).toNat)
        case atStart => exact ⟨0, aa, cap, Nat.zero_le _, rfl, T.out⟩
        case round =>
          obtain ⟨x, aa1, cap1, hx, rfl, hT⟩ := hrel
          have U := Lib.hid hT
          clear hT T
          by_cases hlx : x < iw
          · have HI := Lib.hid (show y * iw + x < N from by
              have h1 : (y + 1) * iw ≤ ih * iw := Nat.mul_le_mul_right _ hlt
              rw [HN.out, Nat.mul_comm iw ih]
              rw [Nat.add_mul, Nat.one_mul] at h1
              omega)
            have hs := Af.seenTo_next W H zs q s iw y x hlx
            have hv := seen_num HP.out q s (x : Int) (y : Int)
            have CA := Lib.hid (fun w' (k : Keeps none' w w') => at_any W H a n c zs q (x : Int) (y : Int) s w' (HZ.out.later k) HP.out HQ.out (by unfold Spot; omega) (by unfold Spot; omega))
            generalize Af.seen W H zs q s (x : Int) (y : Int) = v at *
            have HS := Lib.hid hs
            have HV := Lib.hid (show -9223372036854775808 ≤ v ∧ v ≤ 9223372036854775807 from by unfold Af.Num at hv; omega)
            clear hs hv
            have a0 := U.out.pic.c0
            have a1 := U.out.pic.c1
            have a2 := U.out.pic.c2
            have d0 := U.out.map.c0
            have d1 := U.out.map.c1
            have d2 := U.out.map.c2
            have d3 := U.out.map.c3
            have d4 := U.out.map.c4
            have d5 := U.out.map.c5
            have g2 := U.out.hdr.c2
            have j2 := U.out.hdr.fr (i := 2)
            generalize hK : y * iw + x = K at *
            have HK := Lib.hid hK
            clear hK
            go_upto_region 15 with (fail)
            have UD := Lib.hid (U.out.later (Keeps.refl none' wr).drew)
            have CB := Lib.hid (CA.out _ UD.out.keeps)
            clear CA
            have CALL := Lib.hid (fun w2 (hk : Keeps none' wr.drew w2) => (UD.out.later hk).later (keeps_alloc (o := .cells #[.int .i64 v] 3) rfl))
            go_region_law (first
              | (go_simp; refine CB.out.mono ?_; rintro e w2 ⟨rfl, hk⟩; have V0 := Lib.hid (UD.out.later hk); have V1 := Lib.hid (CALL.out _ hk); have g2' := V0.out.hdr.c2; have g3' := V1.out.hdr.c2; have j3' := V1.out.hdr.fr (i := 2); clear hk)
              | (refine step_append_ints (by rfl) (.tmp 61) (.tmp 68) (by rfl) N0 K (.slice aa1 K cap1) (Af.seenTo W H zs q s iw K) (by rfl) V1.out.own (some ⟨_, 0, none⟩) 1 1 [v] (by rfl) (one_ints _ v HV.out) (by intro e; cases e) (by have := HI.out; omega) (by omega) V1.out.low.2.2.2 ?_; intro aa2 cap2 w4 hown2 hg2 hat2; have V2 := Lib.hid (V1.out.step (by rw [← HS.out] at hown2; exact hown2) hg2); have j4' := (V1.out.hdr.grown (by decide) V1.out.own hg2).fr (i := 2); have j5' := (V1.out.hdr.grown (by decide) V1.out.own hg2).c2; clear hown2 hg2 hat2))
            all_goals
              have X := Lib.hid V2.out
              clear U UD CB CALL V0 V1 V2 a0 a1 a2 d0 d1 d2 d3 d4 d5 g2 j2 g2' g3' j3' j4' j5'
              generalize World.setCell _ _ _ = wz at *
              go_wp2_with fail
              go_roundw
              case rel => exact ⟨x + 1, aa2, cap2, by omega, by go_num, by rw [← Nat.add_assoc, HK.out]; exact X.out⟩
              case measure => simp [intOf]; omega
          · obtain rfl : x = iw := by omega
            have t9 : decide (x < x) = false := by simp
            have X := Lib.hid U.out
            have e9 := Lib.hid (show (y + 1) * x = y * x + x from by rw [Nat.add_mul, Nat.one_mul])
            clear U
            go_wp2_with fail
            go_roundw
            case rel => exact ⟨y + 1, aa1, cap1, by omega, by go_num, by rw [e9.out]; exact X.out⟩
            case measure => simp [intOf]; omega
      · obtain rfl : y = ih := by omega
        have t9 : decide (y < y) = false := by simp
        have X := Lib.hid (show Seen w 44 23 A D R G N0 W H a n c q iw y (Af.seenTo W H zs q s iw (y * iw)) aa (y * iw) cap wr from T.out)
        clear T
        have g0 := X.out.hdr.c0
        have g1 := X.out.hdr.c1
        have g2 := X.out.hdr.c2
        have r0 := X.out.res.c0
        have r1 := X.out.res.c1
        have r2 := X.out.res.c2
        have f0 := X.out.res.fr (i := 0)
        have f1 := X.out.res.fr (i := 1)
        have f2 := X.out.res.fr (i := 2)
        have U := Lib.hid (X.out.res.all iw y aa (y * iw) cap)
        have V := Lib.hid (X.out.keeps.pic X.out.low.1 iw y aa (y * iw) cap)
        have Z := Lib.hid (X.out.told (seenTo_bounds HP.out q s iw _))
        have ZF := Lib.hid (X.out.far (seenTo_bounds HP.out q s iw _))
        go_wp2_with fail
        refine bodyPost_ret (results_cell_row2 rfl _ _ R 44 #[.int .i64 (iw : Int), .int .i64 (y : Int), .slice aa (y * iw) cap] (0, 0) _ rfl U.out Try.underlying44 rfl (by kernel_rfl)) rfl ?_
        rw [Nat.mul_comm iw y]
        exact ⟨aa, cap, rfl, Z.out, V.out, ZF.out⟩
theorem seeP_good (W H : Int) (a : Option Addr) (n c : Nat) (zs : List Int) (m : Af.M) (pw ph : Int) (s : Bool) (w : World) (hb : (Af.backE m).2 = 0) (hs : Af.sizeOk pw ph) (hz : Ints w a n zs) (hn : n ≤ 16777216) (hp : PicOk W H zs) :
    Calls Try.prog 22 #[.agg #[.int .i64 W, .int .i64 H, .slice a n c], .agg #[.int .i64 m.a, .int .i64 m.b, .int .i64 m.c, .int .i64 m.d, .int .i64 m.e, .int .i64 m.f], .int .i64 pw, .int .i64 ph, .bool s] w (SeeOk pw ph (pw.toNat * ph.toNat) (Af.seenTo W H zs (Af.backE m).1 s pw.toNat (pw.toNat * ph.toNat)) w) :=
  (seeP_far W H a n c zs m pw ph s w hb hs hz hn hp).mono fun e w' h => h.near
end Go.Proofs.Ytfcndldobjpbnaa
