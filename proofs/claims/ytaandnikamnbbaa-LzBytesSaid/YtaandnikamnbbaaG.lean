/- The walk of LzBytes. -/
import Derived.Test.YtaandnikamnbbaaF
namespace Go.Proofs.Ytaandnikamnbbaa
open Go.RowKit
set_option linter.unusedVariables false

set_option maxRecDepth 100000 in
set_option maxHeartbeats 3200000 in
theorem bytes_law (w : World) (a : Option Addr) (n c : Nat) (ts : List Tok) (most : Int) (h : Toks w a n ts) (hm : -9223372036854775808 ≤ most ∧ most ≤ 9223372036854775807) :
    Calls Try.prog 3 #[.slice a n c, .int .i64 most] w (Yes w) := by
  have HT0 := Lib.hid h
  have CA := Lib.hid (anchor_any w)
  clear h
  by_cases h200 : 200 < n
  · have u : decide ((200 : Int) < (n : Int)) = true := by simp; omega
    go_enter Try.func3, Try.ntmps3
    go_wp2_with fail
    refine CA.out.mono ?_
    rintro e w1 ⟨rfl, hb⟩
    have X := Lib.hid hb
    clear hb
    go_wp2_with fail
    go_ret
    exact ⟨rfl, X.out⟩
  · have u200 : decide ((200 : Int) < (n : Int)) = false := by simp; omega
    go_enter Try.func3, Try.ntmps3
    go_wp2_with fail
    refine CA.out.mono ?_
    rintro e w1 ⟨rfl, hb⟩
    have HT := Lib.hid (HT0.out.below hb)
    have HW := Lib.hid hb
    clear hb CA HT0
    go_wp2_with fail
    go_loopw [5, 6, 22] (fun v want cnt wr => ∃ (i : Nat) (out : List Nat) (aa : Option Addr) (cap : Nat), i ≤ n ∧ cnt = .int .i64 i ∧ want = .int .i64 0 ∧ v = .slice aa out.length cap ∧ Grow w1 (.slice aa out.length cap) out wr ∧ out.length ≤ 258 * i ∧ brings most [] ts = brings most out (ts.drop i)) (fun _ _ cnt _ => n - (intOf cnt).toNat)
    case atStart => exact ⟨0, [], none, 0, Nat.zero_le _, rfl, rfl, rfl, Grow.nil w1, Nat.zero_le _, rfl⟩
    case round =>
      obtain ⟨i, out, aa, cap, hi, rfl, rfl, rfl, hg, hol, hbr⟩ := hrel
      by_cases hlt : i < n
      · obtain ⟨b, off, t, rfl, ht, hfit, c0, c1, c2⟩ := (HT.out.below (hg.old)).at hlt
        have hbr := hbr.trans (brings_step ht)
        have hgp := hg.pinned #[.int .i64 t.L, .int .i64 t.D, .int .u8 (t.X : Nat)] 27
        obtain ⟨p0, p1, p2⟩ := box_cells hgp.pin
        have hX := hfit.2.2
        obtain ⟨L, D, X⟩ := t
        simp only at p0 p1 p2 hX c0 c1 c2 hgp
        have hw2 : w1.heap.size ≤ wr.heap.size := hg.old.size
        have GP := Lib.hid hgp
        have HBR := Lib.hid hbr
        clear hg hbr hfit ht hgp
        obtain ⟨wo, rfl⟩ : ∃ wo : World, wo = wr := ⟨_, rfl⟩
        by_cases h0 : L = 0
        · subst h0
          have hmay : may ⟨0, D, X⟩ out.length = true := by simp [may]
          have hbr2 := HBR.out
          rw [hmay] at hbr2
          simp only [Bool.true_eq_false, if_false] at hbr2
          have hw1 : wide ⟨0, D, X⟩ = 1 := rfl
          rw [hw1] at hbr2
          clear hmay HBR hw1
          by_cases hbig : most < (out.length : Int) + 1
          · have E := Lib.hid (show brings most [] ts = (24, []) by rw [hbr2, if_pos (by omega)])
            have u : decide (most < (out.length : Int) + 1) = true := by simpa using hbig
            clear hbr2
            have C := Lib.hid (bytes_any (wo.alloc (.cells #[.int .i64 0, .int .i64 D, .int .u8 (X : Nat)] 27)) (some ⟨b, off, none⟩) n c ts most (HT.out.below GP.out.grow.old) (by omega) hm)
            have HOLD := Lib.hid ((below_more HW.out GP.out.grow.old (Nat.le_refl _)))
            skip
            go_wp2_with fail
            refine C.out.mono ?_
            rintro e w9 ⟨bb, c9, he, hg9⟩
            rw [E.out] at he hg9
            subst he
            have X := Lib.hid (show Below w.heap.size w w9 from below_more HOLD.out hg9.old (Nat.le_refl _))
            clear hg9 C
            go_wp2_with fail
            go_ret
            exact ⟨rfl, X.out⟩
          · have hbr3 : brings most [] ts = brings most (out ++ [X]) (ts.drop (i + 1)) := by rw [hbr2, if_neg (by omega)]; rfl
            have HB3 := Lib.hid hbr3
            have u : decide (most < (out.length : Int) + 1) = false := by simpa using hbig
            clear hbr2 hbr3
            go_wp2_with fail
            go_loopw [5, 11] (fun v cnt wl => ∃ (j : Nat) (al : Option Addr) (cl : Nat), j ≤ 1 ∧ cnt = .int .i64 j ∧ v = .slice al (out.length + j) cl ∧ Pinned w1 wo.heap.size (.cells #[.int .i64 0, .int .i64 D, .int .u8 (X : Nat)] 27 (0, 0)) (.slice al (out.length + j) cl) (out ++ List.replicate j X) wl) (fun _ cnt _ => 1 - (intOf cnt).toNat)
            case atStart => exact ⟨0, aa, cap, Nat.zero_le _, rfl, rfl, by rw [List.replicate_zero, List.append_nil]; exact GP.out⟩
            case round =>
              obtain ⟨j, al, cl, hj, rfl, rfl, hp⟩ := hrel
              obtain ⟨q0, q1, q2⟩ := box_cells hp.pin
              by_cases hjl : j < 1
              · obtain rfl : j = 0 := by omega
                have HP := Lib.hid hp
                have WA := Lib.hid (show Below wr.heap.size wr (wr.alloc (.cells #[.int .u8 (X : Nat)] 5)) from (Below.refl _ _).alloc (Nat.le_refl _) _)
                have OB := Lib.hid (one_byte wr X hX)
                have hwl : w1.heap.size ≤ wr.heap.size := hp.grow.old.size
                clear hp
                go_wp2_with (at_builtin; go_must (refine wpList_append_text rfl (.tmp 82) (.tmp 84) rfl w1.heap.size out.length (.slice al out.length cl) out rfl ?f1 (some ⟨wr.heap.size, 0, none⟩) 1 1 [X] rfl ?f2 (by intro e; cases e) (by omega) (by omega) ?f3 ?f4))
                case f1 =>
                  have := (HP.out.grow.later WA.out).own
                  rwa [List.replicate_zero, List.append_nil] at this
                case f2 => exact OB.out
                case f3 => simp; omega
                case f4 =>
                  intro aa2 cap2 w3 hown hg hat
                  have hp0 := HP.out
                  rw [List.replicate_zero, List.append_nil] at hp0
                  have GP3 := Lib.hid (hp0.push WA.out hX hown hg hat (Nat.le_succ _))
                  clear hown hg hat hp0
                  go_wp2_with fail
                  go_roundw
                  case rel => exact ⟨1, aa2, cap2, Nat.le_refl _, by go_num, rfl, GP3.out⟩
                  case measure => simp [intOf]
              · obtain rfl : j = 1 := by omega
                have HP := Lib.hid hp
                clear hp
                go_wp2_with fail
                go_roundw
                case rel => exact ⟨i + 1, out ++ [X], al, cl, hlt, by go_num, rfl, by rw [List.length_append]; rfl, by rw [List.length_append]; exact HP.out.grow, by rw [List.length_append, List.length_singleton]; omega, HB3.out⟩
                case measure => simp [intOf]; omega
        · have u0 : (L == 0) = false := by simpa using h0
          have u0' : (L != 0) = true := by simpa using h0
          have u0'' : decide (L = 0) = false := by simpa using h0
          by_cases h1 : L < 3
          · have u1 : decide (L < 3) = true := by simpa using h1
            have hmay : may ⟨L, D, X⟩ out.length = false := by simp [may]; omega
            have E := Lib.hid (show brings most [] ts = (22, []) by rw [HBR.out, hmay]; rfl)
            clear hmay
            have C := Lib.hid (bytes_any (wo.alloc (.cells #[.int .i64 L, .int .i64 D, .int .u8 (X : Nat)] 27)) (some ⟨b, off, none⟩) n c ts most (HT.out.below GP.out.grow.old) (by omega) hm)
            have HOLD := Lib.hid ((below_more HW.out GP.out.grow.old (Nat.le_refl _)))
            skip
            go_wp2_with fail
            refine C.out.mono ?_
            rintro e w9 ⟨bb, c9, he, hg9⟩
            rw [E.out] at he hg9
            subst he
            have X := Lib.hid (show Below w.heap.size w w9 from below_more HOLD.out hg9.old (Nat.le_refl _))
            clear hg9 C
            go_wp2_with fail
            go_ret
            exact ⟨rfl, X.out⟩
          · have u1 : decide (L < 3) = false := by simpa using h1
            by_cases h2 : 258 < L
            · have u2 : decide (258 < L) = true := by simpa using h2
              have hmay : may ⟨L, D, X⟩ out.length = false := by simp [may]; omega
              have E := Lib.hid (show brings most [] ts = (22, []) by rw [HBR.out, hmay]; rfl)
              clear hmay
              have C := Lib.hid (bytes_any (wo.alloc (.cells #[.int .i64 L, .int .i64 D, .int .u8 (X : Nat)] 27)) (some ⟨b, off, none⟩) n c ts most (HT.out.below GP.out.grow.old) (by omega) hm)
              have HOLD := Lib.hid ((below_more HW.out GP.out.grow.old (Nat.le_refl _)))
              skip
              go_wp2_with fail
              refine C.out.mono ?_
              rintro e w9 ⟨bb, c9, he, hg9⟩
              rw [E.out] at he hg9
              subst he
              have X := Lib.hid (show Below w.heap.size w w9 from below_more HOLD.out hg9.old (Nat.le_refl _))
              clear hg9 C
              go_wp2_with fail
              go_ret
              exact ⟨rfl, X.out⟩
            · have u2 : decide (258 < L) = false := by simpa using h2
              by_cases h3 : D < 1
              · have u3 : decide (D < 1) = true := by simpa using h3
                have hmay : may ⟨L, D, X⟩ out.length = false := by simp [may]; omega
                have E := Lib.hid (show brings most [] ts = (22, []) by rw [HBR.out, hmay]; rfl)
                clear hmay
                have C := Lib.hid (bytes_any (wo.alloc (.cells #[.int .i64 L, .int .i64 D, .int .u8 (X : Nat)] 27)) (some ⟨b, off, none⟩) n c ts most (HT.out.below GP.out.grow.old) (by omega) hm)
                have HOLD := Lib.hid ((below_more HW.out GP.out.grow.old (Nat.le_refl _)))
                skip
                go_wp2_with fail
                refine C.out.mono ?_
                rintro e w9 ⟨bb, c9, he, hg9⟩
                rw [E.out] at he hg9
                subst he
                have X := Lib.hid (show Below w.heap.size w w9 from below_more HOLD.out hg9.old (Nat.le_refl _))
                clear hg9 C
                go_wp2_with fail
                go_ret
                exact ⟨rfl, X.out⟩
              · have u3 : decide (D < 1) = false := by simpa using h3
                by_cases h4 : 32768 < D
                · have u4 : decide (32768 < D) = true := by simpa using h4
                  have hmay : may ⟨L, D, X⟩ out.length = false := by simp [may]; omega
                  have E := Lib.hid (show brings most [] ts = (22, []) by rw [HBR.out, hmay]; rfl)
                  clear hmay
                  have C := Lib.hid (bytes_any (wo.alloc (.cells #[.int .i64 L, .int .i64 D, .int .u8 (X : Nat)] 27)) (some ⟨b, off, none⟩) n c ts most (HT.out.below GP.out.grow.old) (by omega) hm)
                  have HOLD := Lib.hid ((below_more HW.out GP.out.grow.old (Nat.le_refl _)))
                  skip
                  go_wp2_with fail
                  refine C.out.mono ?_
                  rintro e w9 ⟨bb, c9, he, hg9⟩
                  rw [E.out] at he hg9
                  subst he
                  have X := Lib.hid (show Below w.heap.size w w9 from below_more HOLD.out hg9.old (Nat.le_refl _))
                  clear hg9 C
                  go_wp2_with fail
                  go_ret
                  exact ⟨rfl, X.out⟩
                · have u4 : decide (32768 < D) = false := by simpa using h4
                  by_cases h5 : (out.length : Int) < D
                  · have u5 : decide ((out.length : Int) < D) = true := by simpa using h5
                    have hmay : may ⟨L, D, X⟩ out.length = false := by simp [may]; omega
                    have E := Lib.hid (show brings most [] ts = (22, []) by rw [HBR.out, hmay]; rfl)
                    clear hmay
                    have C := Lib.hid (bytes_any (wo.alloc (.cells #[.int .i64 L, .int .i64 D, .int .u8 (X : Nat)] 27)) (some ⟨b, off, none⟩) n c ts most (HT.out.below GP.out.grow.old) (by omega) hm)
                    have HOLD := Lib.hid ((below_more HW.out GP.out.grow.old (Nat.le_refl _)))
                    skip
                    go_wp2_with fail
                    refine C.out.mono ?_
                    rintro e w9 ⟨bb, c9, he, hg9⟩
                    rw [E.out] at he hg9
                    subst he
                    have X := Lib.hid (show Below w.heap.size w w9 from below_more HOLD.out hg9.old (Nat.le_refl _))
                    clear hg9 C
                    go_wp2_with fail
                    go_ret
                    exact ⟨rfl, X.out⟩
                  · have hmay : may ⟨L, D, X⟩ out.length = true := by simp [may]; omega
                    have hbr2 := HBR.out
                    rw [hmay] at hbr2
                    simp only [Bool.true_eq_false, if_false] at hbr2
                    obtain ⟨k, rfl⟩ := Int.eq_ofNat_of_zero_le (show 0 ≤ L by omega)
                    obtain ⟨d, rfl⟩ := Int.eq_ofNat_of_zero_le (show 0 ≤ D by omega)
                    have hw1 : wide ⟨(k : Int), (d : Int), X⟩ = k := by unfold wide; rw [if_neg h0]; rfl
                    have hbt : brought ⟨(k : Int), (d : Int), X⟩ out = copied d k out := by unfold brought; rw [if_neg h0]; rfl
                    have hk3 : 3 ≤ k := by omega
                    have hk258 : k ≤ 258 := by omega
                    have hd1 : 1 ≤ d := by omega
                    have hdo : d ≤ out.length := by omega
                    have hd3 : d ≤ 32768 := by omega
                    rw [hw1] at hbr2
                    rw [hbt] at hbr2
                    have u5 : decide (out.length < d) = false := by simp; omega
                    clear hw1 hbt hmay HBR h1 h2 h3 h4 h5
                    by_cases hbig : most < (out.length : Int) + k
                    · have E := Lib.hid (show brings most [] ts = (24, []) by rw [hbr2, if_pos (by omega)])
                      have u : decide (most < (out.length : Int) + k) = true := by simpa using hbig
                      clear hbr2
                      have C := Lib.hid (bytes_any (wo.alloc (.cells #[.int .i64 k, .int .i64 d, .int .u8 (X : Nat)] 27)) (some ⟨b, off, none⟩) n c ts most (HT.out.below GP.out.grow.old) (by omega) hm)
                      have HOLD := Lib.hid ((below_more HW.out GP.out.grow.old (Nat.le_refl _)))
                      skip
                      go_wp2_with fail
                      refine C.out.mono ?_
                      rintro e w9 ⟨bb, c9, he, hg9⟩
                      rw [E.out] at he hg9
                      subst he
                      have X := Lib.hid (show Below w.heap.size w w9 from below_more HOLD.out hg9.old (Nat.le_refl _))
                      clear hg9 C
                      go_wp2_with fail
                      go_ret
                      exact ⟨rfl, X.out⟩
                    · have hbr3 : brings most [] ts = brings most (copied d k out) (ts.drop (i + 1)) := by rw [hbr2, if_neg (by omega)]
                      have HB3 := Lib.hid hbr3
                      have u : decide (most < (out.length : Int) + k) = false := by simpa using hbig
                      clear hbr2 hbr3
                      go_wp2_with fail
                      go_loopw [5, 11] (fun v cnt wl => ∃ (j : Nat) (al : Option Addr) (cl : Nat), j ≤ k ∧ cnt = .int .i64 j ∧ v = .slice al (out.length + j) cl ∧ Pinned w1 wo.heap.size (.cells #[.int .i64 k, .int .i64 d, .int .u8 (X : Nat)] 27 (0, 0)) (.slice al (out.length + j) cl) (copied d j out) wl) (fun _ cnt _ => k - (intOf cnt).toNat)
                      case atStart => exact ⟨0, aa, cap, Nat.zero_le _, rfl, rfl, GP.out⟩
                      case round =>
                        obtain ⟨j, al, cl, hj, rfl, rfl, hp⟩ := hrel
                        obtain ⟨q0, q1, q2⟩ := box_cells hp.pin
                        by_cases hjl : j < k
                        · have hcl := copied_length d j out
                          have hown := hp.grow.own
                          rw [hcl] at hown
                          obtain ⟨g, rfl, hBg, hcap, _, hcells⟩ := own_at hown (by omega)
                          obtain ⟨m, hm'⟩ : ∃ m, m = out.length + j - d := ⟨_, rfl⟩
                          have hml : m < (copied d j out).length := by omega
                          obtain ⟨y, hy⟩ : ∃ y, (copied d j out)[m]? = some y := ⟨_, List.getElem?_eq_getElem hml⟩
                          have hyc := hcells m y hy
                          have hy256 := hp.grow.byte y (List.mem_of_getElem? hy)
                          have hcs : copied d (j + 1) out = copied d j out ++ [y] := by
                            rw [copied, hcl, ← hm', List.getD_eq_getElem?_getD, hy]; rfl
                          have hmd : ((out.length : Int) + (j : Int)) - (d : Int) = (m : Int) := by omega
                          have hmn : m < out.length + j := by omega
                          have HP := Lib.hid hp
                          have HCS := Lib.hid (And.intro hcs hown)
                          have HCL := Lib.hid hcl
                          have WA := Lib.hid (show Below wr.heap.size wr (wr.alloc (.cells #[.int .u8 (y : Nat)] 5)) from (Below.refl _ _).alloc (Nat.le_refl _) _)
                          have OB := Lib.hid (one_byte wr y hy256)
                          have hwl : w1.heap.size ≤ wr.heap.size := hp.grow.old.size
                          clear hp hown hcells hy hcs hcl hml hm'
                          go_wp2_with (at_builtin; go_must (refine wpList_append_text rfl (.tmp 82) (.tmp 84) rfl w1.heap.size (out.length + j) (.slice (some ⟨g, 0, none⟩) (out.length + j) cl) (copied d j out) rfl ?g1 (some ⟨wr.heap.size, 0, none⟩) 1 1 [y] rfl ?g2 (by intro e; cases e) (by omega) (by omega) ?g3 ?g4))
                          case g1 => have := (HP.out.grow.later WA.out).own; rwa [HCL.out] at this
                          case g2 => exact OB.out
                          case g3 => simp; omega
                          case g4 =>
                            intro aa2 cap2 w3 hown hg hat
                            have GP3 := Lib.hid (HP.out.push WA.out hy256 (by rw [HCL.out]; exact hown) hg hat (Nat.le_succ _))
                            clear hown hg hat
                            go_wp2_with fail
                            go_roundw
                            case rel => exact ⟨j + 1, aa2, cap2, hjl, by go_num, by rw [Nat.add_assoc], by rw [HCS.out.1]; exact GP3.out⟩
                            case measure => simp [intOf]; omega
                        · obtain rfl : j = k := by omega
                          have HP := Lib.hid hp
                          clear hp
                          go_wp2_with fail
                          go_roundw
                          case rel => exact ⟨i + 1, copied d j out, al, cl, hlt, by go_num, rfl, by rw [copied_length], by rw [copied_length]; exact HP.out.grow, by rw [copied_length]; omega, HB3.out⟩
                          case measure => simp [intOf]; omega
      · obtain rfl : i = n := by omega
        rw [List.drop_of_length_le (by rw [HT.out.1]; exact Nat.le_refl _), brings_nil] at hbr
        have C := Lib.hid (bytes_any wr a i c ts most (HT.out.below hg.old) (by omega) hm)
        have HG := Lib.hid hg
        have E := Lib.hid hbr
        clear hg hbr
        go_wp2_with fail
        refine C.out.mono ?_
        rintro e w9 ⟨bb, c9, he, hg9⟩
        rw [E.out] at he hg9
        subst he
        have hc1 := conv_arg hg9.arg
        have hc2 := conv_arg (HG.out.arg.below hg9.old)
        have X := Lib.hid (show Below w.heap.size w w9 from below_more (below_more HW.out HG.out.old (Nat.le_refl _)) hg9.old (Nat.le_refl _))
        generalize strOf out = s at *
        clear hg9 C HG
        go_wp2_with fail
        go_ret
        exact ⟨rfl, X.out⟩
end Go.Proofs.Ytaandnikamnbbaa
