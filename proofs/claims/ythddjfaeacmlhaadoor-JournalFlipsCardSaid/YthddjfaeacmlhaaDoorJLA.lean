/- The walk of JournalFlips. -/
import Derived.Test.YthddjfaeacmlhaaDoorJL
namespace Go.Proofs.YthddjfaeacmlhaaDoor
open Go.RowKit Jr
set_option linter.unusedVariables false

theorem int_bounds2 {n : Int} (h : (Lit.int .i64 n).wf = true) : -9223372036854775808 ≤ n ∧ n ≤ 9223372036854775807 := by
  simp [Lit.wf, IntKind.min, IntKind.max, IntKind.signed, IntKind.bits] at h
  omega
set_option maxHeartbeats 1600000 in
theorem flips_out (w : World) (a : Option Addr) (n c : Nat) (b : Option Addr) (m d : Nat) (t v : Int) (hF : Fours w) (h : 8 < n ∨ 300 < m ∨ t < 0 ∨ 8 * (m : Int) ≤ t ∨ v < 1 ∨ 4294967296 ≤ v) : Calls Tryd.prog 7 #[.slice a n c, .slice b m d, .int .i64 t, .int .i64 v] w (Yes w) := by
  have A := Lib.hid (anchor_any w hF)
  clear hF
  by_cases h0 : 8 < n
  · have t0 : decide ((8 : Int) < n) = true := by simp; omega
    go_enter Tryd.func7, Tryd.ntmps7
    go_wp2_with fail
    refine A.out.mono ?_
    rintro e w1 ⟨rfl, hk⟩
    have HK := Lib.hid hk
    clear hk
    go_wp2_with fail
    go_ret
    exact ⟨rfl, HK.out⟩
  · have t0 : decide ((8 : Int) < n) = false := by simp; omega
    by_cases h1 : 300 < m
    · have t1 : decide ((300 : Int) < m) = true := by simp; omega
      go_enter Tryd.func7, Tryd.ntmps7
      go_wp2_with fail
      refine A.out.mono ?_
      rintro e w1 ⟨rfl, hk⟩
      have HK := Lib.hid hk
      clear hk
      go_wp2_with fail
      go_ret
      exact ⟨rfl, HK.out⟩
    · have t1 : decide ((300 : Int) < m) = false := by simp; omega
      by_cases h2 : t < 0
      · have t2 : decide (t < 0) = true := by simpa using h2
        go_enter Tryd.func7, Tryd.ntmps7
        go_wp2_with fail
        refine A.out.mono ?_
        rintro e w1 ⟨rfl, hk⟩
        have HK := Lib.hid hk
        clear hk
        go_wp2_with fail
        go_ret
        exact ⟨rfl, HK.out⟩
      · have t2 : decide (t < 0) = false := by simpa using h2
        by_cases h3 : 8 * (m : Int) ≤ t
        · have t3 : decide (8 * (m : Int) ≤ t) = true := by simpa using h3
          go_enter Tryd.func7, Tryd.ntmps7
          go_wp2_with fail
          refine A.out.mono ?_
          rintro e w1 ⟨rfl, hk⟩
          have HK := Lib.hid hk
          clear hk
          go_wp2_with fail
          go_ret
          exact ⟨rfl, HK.out⟩
        · have t3 : decide (8 * (m : Int) ≤ t) = false := by simpa using h3
          by_cases h4 : v < 1
          · have t4 : decide (v < 1) = true := by simpa using h4
            go_enter Tryd.func7, Tryd.ntmps7
            go_wp2_with fail
            refine A.out.mono ?_
            rintro e w1 ⟨rfl, hk⟩
            have HK := Lib.hid hk
            clear hk
            go_wp2_with fail
            go_ret
            exact ⟨rfl, HK.out⟩
          · have t4 : decide (v < 1) = false := by simpa using h4
            have t5 : decide (4294967296 ≤ v) = true := by simp; omega
            go_enter Tryd.func7, Tryd.ntmps7
            go_wp2_with fail
            refine A.out.mono ?_
            rintro e w1 ⟨rfl, hk⟩
            have HK := Lib.hid hk
            clear hk
            go_wp2_with fail
            go_ret
            exact ⟨rfl, HK.out⟩
set_option maxRecDepth 100000 in
set_option maxHeartbeats 3200000 in
theorem flips_good (w : World) (a : Option Addr) (n c : Nat) (ls : List (List Nat)) (b0 : Option Addr) (m0 d : Nat) (p0 : List Nat) (t v : Nat) (hF : Fours w) (hT : Tx w (fun _ => True) a n c ls) (hP : Arg w b0 m0 d p0) (hn : n ≤ 8) (hm0 : m0 ≤ 300) (ht : t < 8 * m0) (hv1 : 1 ≤ v) (hv : v < 4294967296) :
    Calls Tryd.prog 7 #[.slice a n c, .slice b0 m0 d, .int .i64 t, .int .i64 v] w (Yes w) := by
  have A := Lib.hid (anchor_any w hF)
  have t0 : decide ((8 : Int) < n) = false := by simp; omega
  have t1 : decide ((300 : Int) < m0) = false := by simp; omega
  have t2 : decide ((t : Int) < 0) = false := by simp
  have t3 : decide (8 * (m0 : Int) ≤ (t : Int)) = false := by simp; omega
  have t4 : decide ((v : Int) < 1) = false := by simp; omega
  have t5 : decide (4294967296 ≤ (v : Int)) = false := by simp; omega
  have HT := Lib.hid hT
  have HF := Lib.hid hF
  have HN := Lib.hid hT.len
  have HP0 := Lib.hid (And.intro hP hP.len)
  clear hT hF hP
  go_enter Tryd.func7, Tryd.ntmps7
  go_wp2_with fail
  refine A.out.mono ?_
  rintro e w1 ⟨rfl, hk⟩
  have R0 := Lib.hid (Rows.start ls 200 hk)
  clear hk
  go_wp2_with fail
  clear t2 t3 t4 t5
  go_loopw [9, 50] (fun o cnt wr => ∃ (i T cc : Nat) (aa : Option Addr), i ≤ n ∧ o = .slice aa T cc ∧ cnt = .int .i64 i ∧ Rows w ls 200 i aa T cc wr) (fun _ cnt _ => n - (intOf cnt).toNat)
  case atStart => exact ⟨0, 0, 0, none, Nat.zero_le _, rfl, rfl, R0.out⟩
  case round =>
    obtain ⟨i, T, cc, aa, hi, rfl, rfl, hR⟩ := hrel
    have HR := Lib.hid hR
    have hTl := hR.short
    clear hR
    by_cases hlt : i < n
    · obtain ⟨b, off, p, a', m, c', rfl, hp, hcell, hA, _⟩ := (HT.out.below HR.out.below).at hlt
      have HP := Lib.hid (And.intro hp (And.intro hA.len hA))
      by_cases hbig : 200 < m
      · have t2 : decide ((200 : Int) < m) = true := by simp; omega
        clear hp hA
        go_wp2_with fail
        go_ret
        exact ⟨rfl, HR.out.below⟩
      · have t2 : decide ((200 : Int) < m) = false := by simp; omega
        have C := Lib.hid (record_any wr a' m c' p hA (by omega) (HF.out.below HR.out.below))
        clear hp hA
        go_wp2_with fail
        refine C.out.mono ?_
        rintro e w2 ⟨a2, c2, rfl, ho2, hb2⟩
        rw [HP.out.2.1] at ho2 ⊢
        have k2 := arg_of_own ho2 (recd_byte HP.out.2.2.byte)
        have H2 := Lib.hid (And.intro (HR.out.kept hb2) (And.intro k2 hb2))
        have hs2 := (below_more HR.out.below hb2 (Nat.le_refl _)).size
        clear ho2 k2 hb2
        go_wp2_with (at_builtin; go_must (refine wpList_append_text rfl (.tmp 62) (.tmp 63) rfl w.heap.size T (.slice aa T cc) (recs (ls.take i)) rfl H2.out.1 a2 (m + 8) c2 (recd p) rfl H2.out.2.1.1 H2.out.2.1.2.2 (by omega) (by omega) hs2 ?e4))
        intro a3 c3 w3 ho3 hg3 _
        have X := HR.out.step HP.out.1 (by rw [HP.out.2.1]; omega) HP.out.2.2.byte H2.out.2.2 (by rw [HP.out.2.1]; exact ho3) hg3
        rw [HP.out.2.1] at X
        have X := Lib.hid X
        clear ho3 hg3
        go_wp2_with fail
        go_roundw
        case rel => exact ⟨i + 1, T + (m + 8), c3, a3, hlt, rfl, by go_num, X.out⟩
        case measure => simp [intOf]; omega
    · obtain rfl : i = n := by omega
      have hW := HR.out
      have e : ls.take i = ls := by rw [List.take_of_length_le (by rw [HN.out]; exact Nat.le_refl _)]
      have hown := hW.own
      have hTl2 := hW.len
      have hfit := hW.fit
      rw [e] at hown hTl2 hfit
      have hf := fit_of (by omega) hfit
      have hrb := recs_byte hf
      have HA := Lib.hid (arg_of_own hown hrb)
      have HTL := Lib.hid hTl2
      have HFT := Lib.hid (And.intro hf hfit)
      have C := Lib.hid (record_any wr b0 m0 d p0 (HP0.out.1.below hW.below) (by omega) (HF.out.below hW.below))
      have hTb : T ≤ 1664 := by omega
      clear hW e hown hTl2 hfit hf hrb hTl hi hlt
      go_wp2_with fail
      refine C.out.mono ?_
      rintro e w2 ⟨a2, c2, rfl, ho2, hb2⟩
      rw [HP0.out.2] at ho2 ⊢
      have hs2 := (below_more HR.out.below hb2 (Nat.le_refl _)).size
      obtain ⟨g, rfl, hgB, hgc, hpart⟩ := own_part ho2 (by omega)
      have HB2 := Lib.hid hb2
      have T0 := Lib.hid (show Turned wr wr.heap.size g p0 t v 0 w2 from ⟨⟨p0, rfl, HP0.out.1.byte, by rw [Nat.pow_zero, Nat.mod_one, Nat.zero_mul, Nat.xor_zero]; rfl, by rw [show p0.length + 8 = m0 + 8 by rw [HP0.out.2]]; exact hpart⟩, hb2⟩)
      have HM := Lib.hid HP0.out.2
      clear ho2 hb2 hpart
      go_wp2_with fail
      obtain ⟨wo, rfl⟩ : ∃ wo : World, wo = wr := ⟨_, rfl⟩
      have HBD := Lib.hid (And.intro hm0 (And.intro ht (And.intro hv1 hv)))
      have hgB2 := HB2.out.size
      clear hm0 ht t0 t1
      go_loopw [16] (fun cnt wl => ∃ k : Nat, k ≤ 32 ∧ cnt = .int .i64 k ∧ Turned wo wo.heap.size g p0 t v k wl) (fun cnt _ => 32 - (intOf cnt).toNat)
      case atStart => exact ⟨0, Nat.zero_le _, rfl, T0.out⟩
      case round =>
        obtain ⟨k, hk, rfl, hTu⟩ := hrel
        by_cases hk32 : k < 32
        · have hm : (v : Int) / 2 ^ k = ((v / 2 ^ k : Nat) : Int) := by simp
          have hml : v / 2 ^ k ≤ v := Nat.div_le_self _ _
          have hb := i64_low (v / 2 ^ k) (by omega)
          have hskip := fun h => hTu.skip h
          have hbit := fun q r h1 h2 h3 h4 => Turned.bit (q := q) (r := r) hTu hgB h1 h2 h3 h4
          have hbw := hTu.below
          generalize v / 2 ^ k = mm at *
          have HSK := Lib.hid hskip
          have HBI := Lib.hid hbit
          have HBW := Lib.hid (below_more HR.out.below hbw (Nat.le_refl _))
          clear hTu hskip hbit hbw
          rcases Nat.mod_two_eq_zero_or_one mm with e2 | e2
          · rw [e2] at hb
            have X := Lib.hid (HSK.out e2)
            clear e2
            go_wp2_with fail
            go_roundw
            case rel => exact ⟨k + 1, by omega, by go_num, X.out⟩
            case measure => simp [intOf]; omega
          · rw [e2] at hb
            obtain ⟨A, hA⟩ : ∃ A, A = t + k := ⟨_, rfl⟩
            obtain ⟨q, hq⟩ : ∃ q, q = A / 8 := ⟨_, rfl⟩
            obtain ⟨r, hr⟩ : ∃ r, r = A % 8 := ⟨_, rfl⟩
            have hAb : A < 100000 := by have h1 := HBD.out.1; have h2 := HBD.out.2.1; omega
            have eq : (A : Int) / 8 = (q : Int) := by omega
            have er : (A : Int) % 8 = (r : Int) := by omega
            have HEM := Lib.hid (show (A : Int).tmod 8 = (r : Int) by rw [Int.tmod_eq_emod_of_nonneg (by omega)]; omega)
            have HED := Lib.hid (show (A : Int).tdiv 8 = (q : Int) by rw [Int.tdiv_eq_ediv_of_nonneg (by omega)]; omega)
            have hr8 : r < 8 := by omega
            have hAq : t + k = 8 * q + r := by omega
            have HAW := Lib.hid (show wrap64 ((t : Int) + (k : Int)) = (A : Int) by rw [w64 _ (by omega) (by omega)]; omega)
            have HAW2 := Lib.hid (show IntKind.i64.wrap ((t : Int) + (k : Int)) = (A : Int) by rw [IntWalk.i64_left]; exact HAW.out)
            have hqb : q < 100000 := by omega
            by_cases hqn : q < m0
            · obtain ⟨y, hy8, hc, hfr, hX⟩ := HBI.out q r e2 hAq hr8 (by rw [HM.out]; exact hqn)
              obtain ⟨I, hI⟩ : ∃ I, I = 4 + q := ⟨_, rfl⟩
              rw [← hI] at hc hfr hX
              have hp : 2 ^ r < 2 ^ 8 := Nat.pow_lt_pow_right (by omega) hr8
              have hxr : bits .xor .u8 (y : Int) (IntKind.u8.wrap (2 ^ r)) = ((y ^^^ 2 ^ r : Nat) : Int) := by
                have e : IntKind.u8.wrap (2 ^ r) = ((2 ^ r : Nat) : Int) := by
                  have e2 : (2 : Int) ^ r = ((2 ^ r : Nat) : Int) := by simp
                  rw [e2, IntKind.wrap_u8']
                  clear e2
                  generalize 2 ^ r = p2 at *
                  omega
                rw [e]
                exact u8_xor_nat y (2 ^ r) hy8 (by omega)
              have X := Lib.hid hX
              have t5 : decide ((m0 : Int) ≤ (q : Int)) = false := by simp; omega
              generalize y ^^^ 2 ^ r = z at *
              have HIW := Lib.hid (show wrap64 (4 + (q : Int)) = (I : Int) ∧ IntKind.i64.wrap (4 + (q : Int)) = (I : Int) from by
                have h1 : wrap64 (4 + (q : Int)) = (I : Int) := by rw [w64 _ (by omega) (by omega)]; omega
                exact ⟨h1, by rw [IntWalk.i64_left]; exact h1⟩)
              have hIn : (I : Int) < ((m0 + 8 : Nat) : Int) := by omega
              have hIn2 : I < m0 + 8 := by omega
              have hIn3 : (I : Int) < (m0 : Int) + 8 := by omega
              have hwq : IntKind.i64.wrap (q : Int) = q := wrap_i64 _ (by omega) (by omega)
              have hwr : IntKind.i64.wrap (r : Int) = r := wrap_i64 _ (by omega) (by omega)
              have haw := HAW.out
              have haw2 := HAW2.out
              have hiw1 := HIW.out.1
              have hiw2 := HIW.out.2
              have HKK := Lib.hid (And.intro hk32 hk)
              clear hX hA hAq hq hr hAb hk e2 hI
              have em := HEM.out
              go_wp2_with fail
              refine wp_region_still_tail 15 (by kernel_rfl) (by kernel_rfl) ?_
              simp only [List.take_succ_cons, List.take_zero, List.drop_succ_cons, List.drop_zero]
              iterate 12 still_step
              clear haw haw2 hiw1 hiw2 em eq er
              repeat still_step
              try refine wpStill_nil ?_
              change wpList _ _ _ _ _ wr.drew
              go_wp2_with fail
              clear hwq hwr hxr
              go_roundw
              case rel => exact ⟨k + 1, by have := HKK.out.1; omega, by go_num, X.out.drew⟩
              case measure => simp [intOf]; omega
            · have t5 : decide ((m0 : Int) ≤ (q : Int)) = true := by simp; omega
              have haw := HAW.out
              clear hq hr hA hAb hk hAq
              go_wp2_with fail
              go_ret
              exact ⟨rfl, HBW.out⟩
        · obtain rfl : k = 32 := by omega
          obtain ⟨zs, hpart, hzb, hzl, hno⟩ := hTu.done ⟨by rw [HM.out]; have := HBD.out.1; omega, HP0.out.1.byte⟩ HBD.out.2.2.1 HBD.out.2.2.2 (by rw [HM.out]; exact HBD.out.2.1)
          have hbw := hTu.below
          rw [HM.out] at hpart
          have hzz : (front zs ++ big4 (Sums.crc (front p0))).length = m0 + 8 := by rw [List.length_append, front_length, big4_length, hzl, HM.out]
          have hzb2 : Byte (front zs ++ big4 (Sums.crc (front p0))) := (front_byte hzb).append (big4_byte _)
          have kP := hpart.bytes hzz hzb2 hgc
          have kA := HA.out.below hbw
          obtain ⟨Z, hZ⟩ : ∃ Z, Z = front zs ++ big4 (Sums.crc (front p0)) := ⟨_, rfl⟩
          rw [← hZ] at kP hno hzb2
          have hm0 := HBD.out.1
          have CJ := Lib.hid (join_any wr aa T cc (recs ls) (some ⟨g, 0, none⟩) (m0 + 8) c2 Z (by omega) (by omega) kA.1 kA.2.2 kP.1 kP.2.2)
          have HS := Lib.hid (scan_then HFT.out.1 hzb2 hno)
          have HBW := Lib.hid (below_more HR.out.below hbw (Nat.le_refl _))
          have HZB := Lib.hid (And.intro ((recs_byte HFT.out.1).append hzb2) (show (recs ls ++ Z).length = T + (m0 + 8) by rw [List.length_append, ← HTL.out, hZ, hzz]))
          clear hpart hbw hzz hzb2 kP kA hno hTu hZ
          go_wp2_with fail
          refine CJ.out.mono ?_
          rintro e w3 ⟨a3, c3, rfl, ho3, hb3⟩
          rw [HZB.out.2] at ho3 ⊢
          have hk3 := below_more HBW.out hb3 (Nat.le_refl _)
          have kA3 := arg_of_own ho3 HZB.out.1
          have CS := scan_any w3 a3 (T + (m0 + 8)) c3 _ kA3 (by omega) (HF.out.below hk3)
          rw [HS.out, ← HTL.out] at CS
          have CS := Lib.hid CS
          have HK3 := Lib.hid hk3
          clear ho3 hb3 hk3 kA3
          go_wp2_with fail
          refine CS.out.mono ?_
          rintro e w4 ⟨a4, c4, rfl, hT4, hb4⟩
          rw [HN.out] at hT4 ⊢
          have hk4 := below_more HK3.out hb4 (Nat.le_refl _)
          have CL := sameL_any w4 _ _ _ _ _ _ _ _ _ _ hT4 (HT.out.below hk4) (by omega) (by omega) (fun p hp => by have := (HFT.out.1 p hp).1; omega) (fun p hp => by have := (HFT.out.1 p hp).1; omega)
          rw [decide_eq_true rfl] at CL
          have CL := Lib.hid CL
          have HK4 := Lib.hid hk4
          clear hT4 hb4 hk4
          go_wp2_with fail
          refine CL.out.mono ?_
          rintro e w5 ⟨rfl, hb5⟩
          have X := Lib.hid (show Yes w (.returned (.bool true)) w5 from ⟨rfl, below_more HK4.out hb5 (Nat.le_refl _)⟩)
          clear hb5
          go_wp2_with fail
          go_ret
          exact X.out
theorem flips_any (w : World) (a : Option Addr) (n c : Nat) (ls : List (List Nat)) (b : Option Addr) (m d : Nat) (p : List Nat) (t v : Int) (hF : Fours w) (hT : Tx w (fun _ => True) a n c ls) (hP : Arg w b m d p) (ht : -9223372036854775808 ≤ t ∧ t ≤ 9223372036854775807) (hv : -9223372036854775808 ≤ v ∧ v ≤ 9223372036854775807) :
    Calls Tryd.prog 7 #[.slice a n c, .slice b m d, .int .i64 t, .int .i64 v] w (Yes w) := by
  by_cases h : 8 < n ∨ 300 < m ∨ t < 0 ∨ 8 * (m : Int) ≤ t ∨ v < 1 ∨ 4294967296 ≤ v
  · exact flips_out w a n c b m d t v hF h
  · obtain ⟨t', rfl⟩ := Int.eq_ofNat_of_zero_le (show 0 ≤ t by omega)
    obtain ⟨v', rfl⟩ := Int.eq_ofNat_of_zero_le (show 0 ≤ v by omega)
    exact flips_good w a n c ls b m d p t' v' hF hT hP (by omega) (by omega) (by omega) (by omega) (by omega)
end Go.Proofs.YthddjfaeacmlhaaDoor
