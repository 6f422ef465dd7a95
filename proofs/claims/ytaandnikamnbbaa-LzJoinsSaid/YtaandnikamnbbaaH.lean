/- The walk of LzJoins. -/
import Derived.Test.YtaandnikamnbbaaHP
namespace Go.Proofs.Ytaandnikamnbbaa
open Go.RowKit
set_option linter.unusedVariables false

set_option maxRecDepth 100000 in
set_option maxHeartbeats 1600000 in
theorem joins_out (w : World) (a : Option Addr) (n c : Nat) (k D : Int) (b : Option Addr) (m e : Nat) (h : 1000 < n ∨ 1000 < m ∨ k < 3 ∨ 258 < k ∨ D < 1) :
    Calls Try.prog 7 #[.slice a n c, .int .i64 k, .int .i64 D, .slice b m e] w (Yes w) := by
  have CA := Lib.hid (anchor_any w)
  by_cases h1 : 1000 < n
  · have u1 : decide ((1000 : Int) < (n : Int)) = true := by simp; omega
    go_enter Try.func7, Try.ntmps7
    go_wp2_with fail
    refine CA.out.mono ?_
    rintro e w1 ⟨rfl, hb⟩
    have X := Lib.hid hb
    clear hb
    go_wp2_with fail
    go_ret
    exact ⟨rfl, X.out⟩
  · have u1 : decide ((1000 : Int) < (n : Int)) = false := by simp; omega
    by_cases h2 : 1000 < m
    · have u2 : decide ((1000 : Int) < (m : Int)) = true := by simp; omega
      go_enter Try.func7, Try.ntmps7
      go_wp2_with fail
      refine CA.out.mono ?_
      rintro e w1 ⟨rfl, hb⟩
      have X := Lib.hid hb
      clear hb
      go_wp2_with fail
      go_ret
      exact ⟨rfl, X.out⟩
    · have u2 : decide ((1000 : Int) < (m : Int)) = false := by simp; omega
      by_cases h3 : k < 3
      · have u3 : decide (k < 3) = true := by simpa using h3
        go_enter Try.func7, Try.ntmps7
        go_wp2_with fail
        refine CA.out.mono ?_
        rintro e w1 ⟨rfl, hb⟩
        have X := Lib.hid hb
        clear hb
        go_wp2_with fail
        go_ret
        exact ⟨rfl, X.out⟩
      · have u3 : decide (k < 3) = false := by simpa using h3
        by_cases h4 : 258 < k
        · have u4 : decide (258 < k) = true := by simpa using h4
          go_enter Try.func7, Try.ntmps7
          go_wp2_with fail
          refine CA.out.mono ?_
          rintro e w1 ⟨rfl, hb⟩
          have X := Lib.hid hb
          clear hb
          go_wp2_with fail
          go_ret
          exact ⟨rfl, X.out⟩
        · have u4 : decide (258 < k) = false := by simpa using h4
          have u5 : decide (D < 1) = true := by simp; omega
          go_enter Try.func7, Try.ntmps7
          go_wp2_with fail
          refine CA.out.mono ?_
          rintro e w1 ⟨rfl, hb⟩
          have X := Lib.hid hb
          clear hb
          go_wp2_with fail
          go_ret
          exact ⟨rfl, X.out⟩

set_option maxRecDepth 100000 in
set_option maxHeartbeats 3200000 in
theorem joins_good (w : World) (a : Option Addr) (n c : Nat) (xs : List Nat) (k : Nat) (D : Int) (b : Option Addr) (m e : Nat) (ys : List Nat) (hx : Arg w a n c xs) (hy : Arg w b m e ys) (hn : n ≤ 1000) (hm : m ≤ 1000) (hk : 3 ≤ k ∧ k ≤ 258) (hD : 1 ≤ D ∧ D ≤ 9223372036854775807) :
    Calls Try.prog 7 #[.slice a n c, .int .i64 k, .int .i64 D, .slice b m e] w (Yes w) := by
  have CA := Lib.hid (anchor_any w)
  have u1 : decide ((1000 : Int) < (n : Int)) = false := by simp; omega
  have u2 : decide ((1000 : Int) < (m : Int)) = false := by simp; omega
  have u3 : decide ((k : Int) < 3) = false := by simp; omega
  have u4 : decide ((258 : Int) < (k : Int)) = false := by simp; omega
  have u5 : decide (D < 1) = false := by simp; omega
  have HX0 := Lib.hid hx
  have HY0 := Lib.hid hy
  clear hx hy
  go_enter Try.func7, Try.ntmps7
  go_wp2_with fail
  refine CA.out.mono ?_
  rintro e1 w1 ⟨rfl, hb⟩
  have HX := Lib.hid (HX0.out.below hb)
  have HY := Lib.hid (HY0.out.below hb)
  have HW := Lib.hid hb
  clear hb CA HX0 HY0
  go_wp2_with fail
  go_loopw [9, 41] (fun v cnt wr => ∃ (i : Nat) (aa : Option Addr) (cap : Nat), i ≤ n ∧ cnt = .int .i64 i ∧ v = .slice aa i cap ∧ GrowT w1 (.slice aa i cap) ((xs.take i).map lit) wr) (fun _ cnt _ => n - (intOf cnt).toNat)
  case atStart => exact ⟨0, none, 0, Nat.zero_le _, rfl, rfl, GrowT.nil w1⟩
  case round =>
    obtain ⟨i, aa, cap, hi, rfl, rfl, hg⟩ := hrel
    by_cases hlt : i < n
    · obtain ⟨ba, off, y, rfl, hy, hyb, hc⟩ := (HX.out.1.below hg.old).at hlt
      have hlen : ((xs.take i).map lit).length = i := by rw [List.length_map, List.length_take, HX.out.1.1]; omega
      have hmore := lits_more hy
      obtain ⟨ts, hts⟩ : ∃ ts, ts = (xs.take i).map lit := ⟨_, rfl⟩
      rw [← hts] at hg hlen hmore
      have HG := Lib.hid hg
      have HL := Lib.hid (And.intro hlen hmore)
      have WA := Lib.hid (show Below wr.heap.size wr (wr.alloc (.cells #[.int .i64 0, .int .i64 0, .int .u8 (y : Nat)] 27)) from (Below.refl _ _).alloc (Nat.le_refl _) _)
      have OT := Lib.hid (one_tok wr (lit y))
      have hwl : w1.heap.size ≤ wr.heap.size := hg.old.size
      clear hg hlen hy hmore hts
      go_wp2_with (at_builtin; go_must (refine wpList_append_tok rfl (.tmp 45) (.tmp 48) rfl w1.heap.size i (.slice aa i cap) ts (lit y) rfl ?f1 wr.heap.size 1 rfl ?f2 (by omega) ?f3 ?f4))
      case f1 => have := (HG.out.later WA.out).own; rwa [HL.out.1] at this
      case f2 => exact OT.out
      case f3 => first | (simp; omega) | omega | exact Nat.le_succ_of_le hwl
      case f4 =>
        intro aa2 cap2 w3 hown hg hat
        have G3 := Lib.hid (HG.out.push WA.out (by rw [HL.out.1]; exact hown) hg)
        clear hown hg hat
        go_wp2_with fail
        go_roundw
        case rel => exact ⟨i + 1, aa2, cap2, hlt, by go_num, rfl, by rw [HL.out.2]; exact G3.out⟩
        case measure => simp [intOf]; omega
    · obtain rfl : i = n := by omega
      rw [List.take_of_length_le (by rw [HX.out.1.1]; exact Nat.le_refl _)] at hg
      have hlx : (xs.map lit).length = i := by rw [List.length_map, HX.out.1.1]
      obtain ⟨ls, hls⟩ : ∃ ls, ls = xs.map lit := ⟨_, rfl⟩
      rw [← hls] at hg hlx
      have HLS := Lib.hid hls
      have HG := Lib.hid hg
      have HL := Lib.hid hlx
      have WA := Lib.hid (show Below wr.heap.size wr (wr.alloc (.cells #[.int .i64 k, .int .i64 D, .int .u8 ((0 : Nat) : Int)] 27)) from (Below.refl _ _).alloc (Nat.le_refl _) _)
      have OT := Lib.hid (one_tok wr ⟨k, D, 0⟩)
      have hwl : w1.heap.size ≤ wr.heap.size := hg.old.size
      clear hg hlx hls
      go_wp2_with (at_builtin; go_must (refine wpList_append_tok rfl (.tmp 51) (.tmp 55) rfl w1.heap.size i (.slice aa i cap) ls ⟨k, D, 0⟩ rfl ?g1 wr.heap.size 1 rfl ?g2 (by omega) ?g3 ?g4))
      case g1 => have := (HG.out.later WA.out).own; rwa [HL.out] at this
      case g2 => exact OT.out
      case g3 => first | (simp; omega) | omega | exact Nat.le_succ_of_le hwl
      case g4 =>
        intro aa2 cap2 w3 hown hg hat
        have G3 := Lib.hid (HG.out.push WA.out (by rw [HL.out]; exact hown) hg)
        clear hown hg hat WA OT HG
        go_wp2_with fail
        go_loopw [9, 59] (fun v cnt wl => ∃ (j : Nat) (al : Option Addr) (cl : Nat), j ≤ m ∧ cnt = .int .i64 j ∧ v = .slice al (i + 1 + j) cl ∧ GrowT w1 (.slice al (i + 1 + j) cl) (ls ++ [(⟨k, D, 0⟩ : Tok)] ++ (ys.take j).map lit) wl) (fun _ cnt _ => m - (intOf cnt).toNat)
        case atStart => exact ⟨0, aa2, cap2, Nat.zero_le _, rfl, rfl, by rw [List.take_zero, List.map_nil, List.append_nil]; exact G3.out⟩
        case round =>
          clear G3
          obtain ⟨j, al, cl, hj, rfl, rfl, hg⟩ := hrel
          by_cases hlt : j < m
          · obtain ⟨ba, off, y, rfl, hy, hyb, hc⟩ := (HY.out.1.below hg.old).at hlt
            have hlen : (ls ++ [(⟨k, D, 0⟩ : Tok)] ++ (ys.take j).map lit).length = i + 1 + j := by
              rw [List.length_append, List.length_append, HL.out, List.length_map, List.length_take, HY.out.1.1, List.length_singleton]; omega
            have hmore := lits_more hy
            obtain ⟨us, hus⟩ : ∃ us, us = (ys.take j).map lit := ⟨_, rfl⟩
            rw [← hus] at hg hlen hmore
            obtain ⟨ts, hts⟩ : ∃ ts, ts = ls ++ [(⟨k, D, 0⟩ : Tok)] ++ us := ⟨_, rfl⟩
            rw [← hts] at hg hlen
            have HG := Lib.hid hg
            have HM := Lib.hid (And.intro hlen (And.intro hmore hts))
            have WA := Lib.hid (show Below wr.heap.size wr (wr.alloc (.cells #[.int .i64 0, .int .i64 0, .int .u8 (y : Nat)] 27)) from (Below.refl _ _).alloc (Nat.le_refl _) _)
            have OT := Lib.hid (one_tok wr (lit y))
            have hwl : w1.heap.size ≤ wr.heap.size := hg.old.size
            clear hg hlen hy hmore hts hus
            go_wp2_with (at_builtin; go_must (refine wpList_append_tok rfl (.tmp 63) (.tmp 66) rfl w1.heap.size (i + 1 + j) (.slice al (i + 1 + j) cl) ts (lit y) rfl ?k1 wr.heap.size 1 rfl ?k2 (by omega) ?k3 ?k4))
            case k1 => have := (HG.out.later WA.out).own; rwa [HM.out.1] at this
            case k2 => exact OT.out
            case k3 => first | (simp; omega) | omega | exact Nat.le_succ_of_le hwl
            case k4 =>
              intro aa3 cap3 w4 hown hg hat
              have G4 := Lib.hid (HG.out.push WA.out (by rw [HM.out.1]; exact hown) hg)
              clear hown hg hat
              go_wp2_with fail
              go_roundw
              case rel => exact ⟨j + 1, aa3, cap3, hlt, by go_num, by rw [Nat.add_assoc (i + 1)], by rw [HM.out.2.1, ← List.append_assoc, ← HM.out.2.2]; exact G4.out⟩
              case measure => simp [intOf]; omega
          · obtain rfl : j = m := by omega
            have hjoin : ls ++ [(⟨(k : Int), D, 0⟩ : Tok)] ++ (ys.take j).map lit = joined xs k D ys := by
              rw [HLS.out, List.take_of_length_le (by rw [HY.out.1.1]; exact Nat.le_refl _), List.append_assoc]; rfl
            rw [hjoin] at hg
            have hfit := joined_fits xs k D ys HX.out.1.2.1 HY.out.1.2.1 hk.2 (by omega)
            have hlen : (joined xs k D ys).length = i + 1 + j := by
              rw [← hjoin, List.length_append, List.length_append, HL.out, List.length_map, List.length_take, HY.out.1.1, List.length_singleton]; omega
            have htk : Toks wr al (i + 1 + j) (joined xs k D ys) := by
              have hg2 : GrowT w1 (.slice al (joined xs k D ys).length cl) (joined xs k D ys) wr := by rw [hlen]; exact hg
              have := (hg2.toks hfit).1
              rwa [hlen] at this
            have CB := Lib.hid (bytes_any wr al (i + 1 + j) cl (joined xs k D ys) 5000 htk (by omega) (by omega))
            have HO := Lib.hid (below_more HW.out hg.old (Nat.le_refl _))
            have HWL := Lib.hid hg.old
            clear hg hjoin hfit hlen htk
            have hxl : xs.length = i := HX.out.1.1
            have hyl : ys.length = j := HY.out.1.1
            by_cases hfar : (i : Int) < D
            · have E := Lib.hid (joined_far xs k D ys (by omega) hk.1 (by rw [hxl]; exact hfar))
              have u : decide ((i : Int) < D) = true := by simpa using hfar
              have HXL := Lib.hid (And.intro hxl hyl)
              clear hxl hyl
              go_wp2_with fail
              refine CB.out.mono ?_
              rintro e9 w9 ⟨bb, c9, he, hg9⟩
              rw [E.out] at he hg9
              subst he
              have X := Lib.hid (below_more HO.out hg9.old (Nat.le_refl _))
              clear hg9
              go_wp2_with fail
              go_ret
              exact ⟨rfl, X.out⟩
            · obtain ⟨d, rfl⟩ := Int.eq_ofNat_of_zero_le (show 0 ≤ D by omega)
              have E := Lib.hid (joined_near xs k d ys (by omega) (by omega) hk.1 hk.2 (by omega) (by omega))
              have u : decide ((i : Int) < (d : Int)) = false := by simpa using hfar
              have u' : decide (i < d) = false := by simp; omega
              have HXL := Lib.hid (And.intro hxl hyl)
              clear hxl hyl
              go_wp2_with fail
              refine CB.out.mono ?_
              rintro e9 w9 ⟨bb, c9, he, hg9⟩
              rw [E.out] at he hg9
              have hzl : (copied d k xs ++ ys).length = i + k + j := by rw [List.length_append, copied_length, HXL.out.1, HXL.out.2]
              have hzt : (copied d k xs ++ ys).take i = xs := by
                have := copied_take d k xs ys
                rwa [HXL.out.1] at this
              have hzd : (copied d k xs ++ ys).drop (i + k) = ys := by
                have := copied_drop d k xs ys
                rwa [HXL.out.1] at this
              have az0 := hg9.arg
              rw [hzl] at az0
              simp only [hzl] at he hg9
              subst he
              have az : Arg w9 bb (i + k + j) c9 (copied d k xs ++ ys) := az0
              have o9 := hg9.old
              have hbel : Below w1.heap.size w1 w9 := below_more HWL.out o9 (Nat.le_refl _)
              have s1 : ∀ q, (convert 24 9 (.slice bb i c9)).run Try.prog (w9.drewN q) = .ok (.string (strOf xs)) (w9.drewN q) := fun q => by
                have := conv_arg (w := w9.drewN q) (az.take (k := i) (by omega))
                rwa [hzt] at this
              have s2 : ∀ q, (convert 24 9 (.slice (if c9 = i + k then bb else bb.map (fun x => x.add (i + k))) j (c9 - (i + k)))).run Try.prog (w9.drewN q) = .ok (.string (strOf ys)) (w9.drewN q) := fun q => by
                have := conv_arg (w := w9.drewN q) (az.drop (k := i + k) (by omega))
                rwa [hzd, show i + k + j - (i + k) = j by omega] at this
              have s3 : ∀ q, (convert 24 9 (.slice a i c)).run Try.prog (w9.drewN q) = .ok (.string (strOf xs)) (w9.drewN q) := fun q => conv_arg (w := w9.drewN q) ((HX.out.below hbel).below ⟨rfl, rfl, rfl, Nat.le_refl _, fun _ _ => rfl⟩)
              have s4 : ∀ q, (convert 24 9 (.slice b j e)).run Try.prog (w9.drewN q) = .ok (.string (strOf ys)) (w9.drewN q) := fun q => conv_arg (w := w9.drewN q) ((HY.out.below hbel).below ⟨rfl, rfl, rfl, Nat.le_refl _, fun _ _ => rfl⟩)
              have X := Lib.hid (below_more HO.out o9 (Nat.le_refl _))
              have AZ := Lib.hid az
              have HB9 := Lib.hid hbel
              generalize strOf xs = sx at *
              generalize strOf ys = sy at *
              clear hg9 o9 az az0 hbel hzl hzt hzd
              have hik : IntKind.i64.wrap ((i : Int) + (k : Int)) = ((i + k : Nat) : Int) := by rw [wrap_i64 _ (by omega) (by omega)]; omega
              have hikj : IntKind.i64.wrap (((i + k : Nat) : Int) + (j : Int)) = ((i + k + j : Nat) : Int) := by rw [wrap_i64 _ (by omega) (by omega)]; omega
              have hcz : i + k + j ≤ c9 := AZ.out.2.1
              go_wp2_with fail
              go_quiet (fail)
              clear s1 s2 s3 s4 hikj
              go_wp2_with fail
              all_goals
                go_loopw [16] (fun cnt wl => ∃ p q : Nat, p ≤ k ∧ cnt = .int .i64 p ∧ wl = w9.drewN q) (fun cnt _ => k - (intOf cnt).toNat)
                case atStart => exact ⟨0, nq, Nat.zero_le _, rfl, rfl⟩
                case round =>
                  obtain ⟨p, q, hp, rfl, rfl⟩ := hrel
                  by_cases hpk : p < k
                  · have A1 : Arg w9 bb (i + k + j) c9 (copied d k xs ++ ys) := AZ.out
                    have A2 : Arg w9 a i c xs := HX.out.below HB9.out
                    obtain ⟨s, hs⟩ : ∃ s, s = i + p := ⟨_, rfl⟩
                    obtain ⟨b1, o1, y1, rfl, hy1, _, hc1⟩ := A1.1.at (i := s) (by omega)
                    obtain ⟨r, hr⟩ : ∃ r, r = p % d := ⟨_, rfl⟩
                    have hrd : r < d := by rw [hr]; exact Nat.mod_lt _ (by omega)
                    obtain ⟨f, hf⟩ : ∃ f, f = i - d := ⟨_, rfl⟩
                    obtain ⟨v, hv⟩ : ∃ v, v = f + r := ⟨_, rfl⟩
                    have hfr : v < i := by omega
                    obtain ⟨b2, o2, y2, rfl, hy2, _, hc2⟩ := A2.1.at (i := v) hfr
                    have hyy : y1 = y2 := by
                      have h1 := copied_at d k xs (by omega) (by rw [HXL.out.1]; omega) p hpk
                      rw [HXL.out.1, ← hr, ← hf, ← hv, hy2] at h1
                      rw [hs, List.getElem?_append_left (by rw [copied_length, HXL.out.1]; omega), h1] at hy1
                      exact (Option.some.inj hy1).symm
                    subst hyy
                    have k1 : IntKind.i64.wrap ((i : Int) + (p : Int)) = (s : Int) := by rw [wrap_i64 _ (by omega) (by omega)]; omega
                    have k2 : IntKind.i64.wrap ((i : Int) - (d : Int)) = (f : Int) := by rw [wrap_i64 _ (by omega) (by omega)]; omega
                    have k3 : (p : Int).tmod (d : Int) = (r : Int) := by rw [hr]; rfl
                    have k4 : IntKind.i64.wrap ((f : Int) + (r : Int)) = (v : Int) := by rw [wrap_i64 _ (by omega) (by omega)]; omega
                    have k5 : s < i + k + j := by omega
                    clear hy1 hy2 hr hf hs hv A1 A2
                    go_wp2_with fail
                    go_quiet (fail)
                    clear k1 k2 k3 k4
                    go_wp2_with fail
                    go_roundw
                    case rel => exact ⟨p + 1, q + nq, hpk, by go_num, by first | rfl | exact World.drewN_drewN⟩
                    case measure => simp [intOf]; omega
                  · obtain rfl : p = k := by omega
                    go_wp2_with fail
                    go_ret
                    exact ⟨rfl, ⟨X.out.os, X.out.tape, X.out.output, X.out.size, X.out.block⟩⟩
theorem joins_law (w : World) (a : Option Addr) (n c : Nat) (xs : List Nat) (k D : Int) (b : Option Addr) (m e : Nat) (ys : List Nat) (hx : Arg w a n c xs) (hk : -9223372036854775808 ≤ k ∧ k ≤ 9223372036854775807) (hD : -9223372036854775808 ≤ D ∧ D ≤ 9223372036854775807) (hy : Arg w b m e ys) :
    Calls Try.prog 7 #[.slice a n c, .int .i64 k, .int .i64 D, .slice b m e] w (Yes w) := by
  by_cases h : 1000 < n ∨ 1000 < m ∨ k < 3 ∨ 258 < k ∨ D < 1
  · exact joins_out w a n c k D b m e h
  · obtain ⟨k, rfl⟩ := Int.eq_ofNat_of_zero_le (show 0 ≤ k by omega)
    exact joins_good w a n c xs k D b m e ys hx hy (by omega) (by omega) (by omega) (by omega)
end Go.Proofs.Ytaandnikamnbbaa
