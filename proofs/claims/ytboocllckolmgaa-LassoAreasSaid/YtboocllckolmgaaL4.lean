/- The walk of LassoAreas. -/
import Derived.Test.YtboocllckolmgaaW
namespace Go.Proofs.Ytboocllckolmgaa
open Go.RowKit
set_option linter.unusedVariables false

set_option maxHeartbeats 1600000 in
theorem areas_out0 (w : World) (a : Option Addr) (n c : Nat) (ps : List Pt) (t : Int) (d : Pt) (h : Pts w a n ps) (h0 : 1000 < n) : Calls Try.prog 6 #[.slice a n c, .int .i64 t, .agg #[.int .i64 d.X, .int .i64 d.Y]] w (Yes w) := by
  have u0 : decide ((1000 : Int) < (n : Int)) = true := by simp; omega
  have b0 : Below w.heap.size w (w.alloc (.cells #[.int .i64 d.X, .int .i64 d.Y] 37)) := (Below.refl _ _).alloc (Nat.le_refl _) _
  have CA := Lib.hid (anchor_any (w.alloc (.cells #[.int .i64 d.X, .int .i64 d.Y] 37)))
  have HO := Lib.hid (one_pt w d 37)
  have HB0 := Lib.hid b0
  clear b0
  clear h
  go_enter Try.func6, Try.ntmps6
  go_wp2_with fail
  refine CA.out.mono ?_
  rintro e w1 ⟨rfl, hb⟩
  have X := Lib.hid (below_more HB0.out hb (Nat.le_refl _))
  clear hb CA HB0 HO
  go_wp2_with fail
  go_ret
  exact ⟨rfl, X.out⟩

set_option maxHeartbeats 1600000 in
theorem areas_out1 (w : World) (a : Option Addr) (n c : Nat) (ps : List Pt) (t : Int) (d : Pt) (h : Pts w a n ps) (h0 : ¬ 1000 < n) (h1 : t < 0) : Calls Try.prog 6 #[.slice a n c, .int .i64 t, .agg #[.int .i64 d.X, .int .i64 d.Y]] w (Yes w) := by
  have u0 : decide ((1000 : Int) < (n : Int)) = false := by simp; omega
  have u1 : decide (t < 0) = true := by simpa using h1
  have b0 : Below w.heap.size w (w.alloc (.cells #[.int .i64 d.X, .int .i64 d.Y] 37)) := (Below.refl _ _).alloc (Nat.le_refl _) _
  have CA := Lib.hid (anchor_any (w.alloc (.cells #[.int .i64 d.X, .int .i64 d.Y] 37)))
  have HO := Lib.hid (one_pt w d 37)
  have HB0 := Lib.hid b0
  clear b0
  clear h
  go_enter Try.func6, Try.ntmps6
  go_wp2_with fail
  refine CA.out.mono ?_
  rintro e w1 ⟨rfl, hb⟩
  have X := Lib.hid (below_more HB0.out hb (Nat.le_refl _))
  clear hb CA HB0 HO
  go_wp2_with fail
  go_ret
  exact ⟨rfl, X.out⟩

set_option maxHeartbeats 3200000 in
theorem areas_no (w : World) (a : Option Addr) (n c : Nat) (ps : List Pt) (t : Int) (d : Pt) (h : Pts w a n ps) (h0 : ¬ 1000 < n) (h1 : ¬ t < 0) (hs : shape ps = false) : Calls Try.prog 6 #[.slice a n c, .int .i64 t, .agg #[.int .i64 d.X, .int .i64 d.Y]] w (Yes w) := by
  have u0 : decide ((1000 : Int) < (n : Int)) = false := by simp; omega
  have u1 : decide (t < 0) = false := by simpa using h1
  have b0 : Below w.heap.size w (w.alloc (.cells #[.int .i64 d.X, .int .i64 d.Y] 37)) := (Below.refl _ _).alloc (Nat.le_refl _) _
  have CA := Lib.hid (anchor_any (w.alloc (.cells #[.int .i64 d.X, .int .i64 d.Y] 37)))
  have HO := Lib.hid (one_pt w d 37)
  have HB0 := Lib.hid b0
  clear b0
  have HP := Lib.hid (h.below HB0.out)
  have HS := Lib.hid hs
  clear h hs
  go_enter Try.func6, Try.ntmps6
  go_wp2_with fail
  refine CA.out.mono ?_
  rintro e w1 ⟨rfl, hb⟩
  have H1 := Lib.hid (And.intro (HP.out.below hb) (below_more HB0.out hb (Nat.le_refl _)))
  have HX := Lib.hid (And.intro (cell_keep HO.out.1 hb) (cell_keep HO.out.2 hb))
  clear hb CA HB0 HO HP
  have CP := Lib.hid (plain_any w1 a n c ps H1.out.1 (by omega))
  have hl := H1.out.1.1
  go_wp2_with fail
  refine CP.out.mono ?_
  rintro e w2 ⟨aa, c2, rfl, hp, _, _, _, hb⟩
  rw [hl] at hp ⊢
  have H2 := Lib.hid (And.intro (H1.out.1.below hb) (And.intro hp (below_more H1.out.2 hb (Nat.le_refl _))))
  have HX2 := Lib.hid (And.intro (cell_keep HX.out.1 hb) (cell_keep HX.out.2 hb))
  clear hb CP H1 hp hl HX
  have CA := Lib.hid (area_no w2 a n c ps H2.out.1 (by omega) HS.out)
  go_wp2_with fail
  refine CA.out.mono ?_
  rintro e w3 ⟨rfl, hb⟩
  have H3 := Lib.hid (And.intro (H2.out.2.1.below hb) (below_more H2.out.2.2 hb (Nat.le_refl _)))
  clear hb CA H2 HX2
  have CS := Lib.hid (docShape_any w3 aa n c2 ps H3.out.1 (by omega))
  rw [HS.out] at CS
  go_wp2_with fail
  refine CS.out.mono ?_
  rintro e w4 ⟨rfl, hb⟩
  have X := Lib.hid (below_more H3.out.2 hb (Nat.le_refl _))
  clear hb CS H3
  go_wp2_with fail
  go_ret
  exact ⟨rfl, X.out⟩

set_option maxRecDepth 100000 in
set_option maxHeartbeats 6400000 in
theorem areas_yes (w : World) (a : Option Addr) (n c : Nat) (ps : List Pt) (t : Int) (d : Pt) (h : Pts w a n ps) (h0 : ¬ 1000 < n) (h1 : ¬ t < 0) (ht : t ≤ 9223372036854775807) (hd : Fits d) (hs : shape ps = true) : Calls Try.prog 6 #[.slice a n c, .int .i64 t, .agg #[.int .i64 d.X, .int .i64 d.Y]] w (Yes w) := by
  have HD := Lib.hid hd
  clear hd
  have u0 : decide ((1000 : Int) < (n : Int)) = false := by simp; omega
  have u1 : decide (t < 0) = false := by simpa using h1
  have b0 : Below w.heap.size w (w.alloc (.cells #[.int .i64 d.X, .int .i64 d.Y] 37)) := (Below.refl _ _).alloc (Nat.le_refl _) _
  have CA := Lib.hid (anchor_any (w.alloc (.cells #[.int .i64 d.X, .int .i64 d.Y] 37)))
  have HO := Lib.hid (one_pt w d 37)
  have HB0 := Lib.hid b0
  clear b0
  have HP := Lib.hid (h.below HB0.out)
  have HS := Lib.hid hs
  clear h hs
  go_enter Try.func6, Try.ntmps6
  go_wp2_with fail
  refine CA.out.mono ?_
  rintro e w1 ⟨rfl, hb⟩
  have H1 := Lib.hid (And.intro (HP.out.below hb) (below_more HB0.out hb (Nat.le_refl _)))
  have HX := Lib.hid (And.intro (cell_keep HO.out.1 hb) (cell_keep HO.out.2 hb))
  clear hb CA HB0 HO HP
  have CP := Lib.hid (plain_any w1 a n c ps H1.out.1 (by omega))
  have hl := H1.out.1.1
  go_wp2_with fail
  refine CP.out.mono ?_
  rintro e w2 ⟨aa, c2, rfl, hp, _, _, _, hb⟩
  rw [hl] at hp ⊢
  have H2 := Lib.hid (And.intro (H1.out.1.below hb) (And.intro hp (below_more H1.out.2 hb (Nat.le_refl _))))
  have HX2 := Lib.hid (And.intro (cell_keep HX.out.1 hb) (cell_keep HX.out.2 hb))
  clear hb CP H1 hp hl HX
  have CA := Lib.hid (area_yes w2 a n c ps H2.out.1 HS.out)
  obtain ⟨l1, l2, l3⟩ := shape_len HS.out
  rw [H2.out.1.1] at l1 l2
  go_wp2_with fail
  refine CA.out.mono ?_
  rintro e w3 ⟨rfl, hb⟩
  have H3 := Lib.hid (And.intro (H2.out.1.below hb) (And.intro (H2.out.2.1.below hb) (below_more H2.out.2.2 hb (Nat.le_refl _))))
  have HX3 := Lib.hid (And.intro (cell_keep HX2.out.1 hb) (cell_keep HX2.out.2 hb))
  clear hb CA H2 HX2
  have CS := Lib.hid (docShape_any w3 aa n c2 ps H3.out.2.1 (by omega))
  rw [HS.out] at CS
  go_wp2_with fail
  refine CS.out.mono ?_
  rintro e w4 ⟨rfl, hb⟩
  have H4 := Lib.hid (And.intro (H3.out.1.below hb) (And.intro (H3.out.2.1.below hb) (below_more H3.out.2.2 hb (Nat.le_refl _))))
  have HX4 := Lib.hid (And.intro (cell_keep HX3.out.1 hb) (cell_keep HX3.out.2 hb))
  clear hb CS H3 HX3
  have CD := Lib.hid (docArea_any w4 aa n c2 ps H4.out.2.1 l2 l3)
  rw [area_same] at CD
  have hA := areaZ_small HS.out
  have e49 : (2 : Nat) ^ 49 = 562949953421312 := by decide
  obtain ⟨A, hAA⟩ : ∃ A, A = areaZ ps := ⟨_, rfl⟩
  rw [← hAA] at CD hA ⊢
  have wA : -562949953421312 ≤ A ∧ A ≤ 562949953421312 := by omega
  clear hA e49
  have HAA := Lib.hid hAA
  clear hAA
  go_wp2_with fail
  refine CD.out.mono ?_
  rintro e w5 ⟨rfl, hb⟩
  have H5 := Lib.hid (And.intro (H4.out.1.below hb) (below_more H4.out.2.2 hb (Nat.le_refl _)))
  have HX5 := Lib.hid (And.intro (cell_keep HX4.out.1 hb) (cell_keep HX4.out.2 hb))
  have HL3 := Lib.hid l3
  clear hb CD H4 HX4 l3
  obtain ⟨T, rfl⟩ := Int.eq_ofNat_of_zero_le (show 0 ≤ t by omega)
  obtain ⟨k, hk⟩ : ∃ k, k = T % n := ⟨_, rfl⟩
  have hkn : k < n := by rw [hk]; exact Nat.mod_lt _ (by omega)
  have k1 : ((T : Int)).tmod (n : Int) = (k : Int) := by rw [hk]; rfl
  obtain ⟨n1, hn1⟩ : ∃ n1, n1 = n - 1 := ⟨_, rfl⟩
  have k2 : IntKind.i64.wrap ((n : Int) - 1) = (n1 : Int) := by rw [wrap_i64 _ (by omega) (by omega)]; omega
  have k3 : ((n : Int) == 0) = false := by simp; omega
  have k4 : ¬ (n : Int) = 0 := by omega
  have HK := Lib.hid (And.intro hk hn1)
  clear hk hn1 h0 h1 ht
  go_wp2_with fail
  go_loopw [11, 12, 59] (fun vb vr cnt wr => ∃ (i : Nat) (ba ra : Option Addr) (bc rc : Nat), i ≤ n ∧ cnt = .int .i64 i ∧ vb = .slice ba i bc ∧ vr = .slice ra i rc ∧ (ps.reverse.take i).length = i ∧ ((rotL k ps).take i).length = i ∧ TwoR w5 (.slice ba i bc) (ps.reverse.take i) (.slice ra i rc) ((rotL k ps).take i) wr) (fun _ _ cnt _ => n - (intOf cnt).toNat)
  case atStart => exact ⟨0, none, none, 0, 0, Nat.zero_le _, rfl, rfl, rfl, rfl, rfl, TwoR.nil w5⟩
  case round =>
    obtain ⟨i, ba, ra, bc, rc, hi, rfl, rfl, rfl, hbl, hrl, htr⟩ := hrel
    by_cases hlt : i < n
    · have hn0 := H5.out.1.1
      obtain ⟨m1, hm1⟩ : ∃ m1, m1 = n - 1 - i := ⟨_, rfl⟩
      obtain ⟨s, hs⟩ : ∃ s, s = k + i := ⟨_, rfl⟩
      obtain ⟨m2, hm2⟩ : ∃ m2, m2 = s % n := ⟨_, rfl⟩
      have hm2n : m2 < n := by rw [hm2]; exact Nat.mod_lt _ (by omega)
      have hm1n : m1 < n := by omega
      have hpw := H5.out.1.below htr.old
      obtain ⟨b, off, p, rfl, hp, fp, c0, c1⟩ := hpw.at hm1n
      obtain ⟨b2, off2, q, he, hq, fq, d0, d1⟩ := hpw.at hm2n
      cases he
      have r1 : IntKind.i64.wrap ((n1 : Int) - (i : Int)) = (m1 : Int) := by have := HK.out.2; rw [wrap_i64 _ (by omega) (by omega)]; omega
      have r2 : IntKind.i64.wrap ((k : Int) + (i : Int)) = (s : Int) := by rw [wrap_i64 _ (by omega) (by omega)]; omega
      have r3 : ((s : Int)).tmod (n : Int) = (m2 : Int) := by rw [hm2]; rfl
      have tb : ps.reverse.take (i + 1) = ps.reverse.take i ++ [p] := take_more (by rw [reverse_at hn0 hlt hm1]; exact hp)
      have tr : (rotL k ps).take (i + 1) = (rotL k ps).take i ++ [q] := take_more (by rw [rotL_at (by omega) (by omega), hn0, ← hs, ← hm2]; exact hq)
      have TB := Lib.hid (And.intro tb (And.intro hbl (show (ps.reverse.take (i + 1)).length = i + 1 by rw [tb, List.length_append, hbl]; rfl)))
      have TRR := Lib.hid (And.intro tr (And.intro hrl (show ((rotL k ps).take (i + 1)).length = i + 1 by rw [tr, List.length_append, hrl]; rfl)))
      have b1 : Below wr.heap.size wr (wr.alloc (.cells #[.int .i64 p.X, .int .i64 p.Y] 37)) := (Below.refl _ _).alloc (Nat.le_refl _) _
      have HT := Lib.hid (htr.later b1)
      have OP := Lib.hid (one_pt wr p 37)
      have hwl : w5.heap.size ≤ wr.heap.size := htr.old.size
      have HQ := Lib.hid hq
      clear htr hbl hrl tb tr b1 hpw fp fq hp hq hm1 hs hm2 hn0 d0 d1
      go_wp2_with (at_builtin; go_must (refine wpList_append_pt 22 37 Try.underlying22 info37 rfl (.tmp 62) (.tmp 70) rfl w5.heap.size i (.slice ba i bc) (ps.reverse.take i) p rfl ?g1 wr.heap.size 1 rfl ?g2 (by omega) ?g3 ?g4))
      case g1 => have := HT.out.one; rwa [TB.out.2.1] at this
      case g2 => exact OP.out
      case g3 => simp; omega
      case g4 =>
        intro ba2 bc2 w6 hown hg hat
        have HT2 := Lib.hid (show TwoR w5 (.slice ba2 (i + 1) bc2) (ps.reverse.take (i + 1)) (.slice ra i rc) ((rotL k ps).take i) w6 from HT.out.grown (by rw [TB.out.2.2, TB.out.1]; exact hown) hg (by simpa using hat))
        obtain ⟨b', off', q', he2, hq2, _, d0, d1⟩ := (H5.out.1.below HT2.out.old).at hm2n
        cases he2
        rw [HQ.out] at hq2
        cases hq2
        have b2 : Below w6.heap.size w6 (w6.alloc (.cells #[.int .i64 q.X, .int .i64 q.Y] 37)) := (Below.refl _ _).alloc (Nat.le_refl _) _
        have HT3 := Lib.hid (HT2.out.later b2)
        have OQ := Lib.hid (one_pt w6 q 37)
        have hwl6 : w5.heap.size ≤ w6.heap.size := HT2.out.old.size
        clear hown hg hat b2 HT HT2 OP HQ
        go_wp2_with (at_builtin; go_must (refine wpList_append_pt 22 37 Try.underlying22 info37 rfl (.tmp 72) (.tmp 83) rfl w5.heap.size i (.slice ra i rc) ((rotL k ps).take i) q rfl ?f1 w6.heap.size 1 rfl ?f2 (by omega) ?f3 ?f4))
        case f1 => have := HT3.out.two; rwa [TRR.out.2.1] at this
        case f2 => exact OQ.out
        case f3 => simp; omega
        case f4 =>
          intro ra2 rc2 w7 hown hg hat
          have HT4 := Lib.hid (show TwoR w5 (.slice ba2 (i + 1) bc2) (ps.reverse.take (i + 1)) (.slice ra2 (i + 1) rc2) ((rotL k ps).take (i + 1)) w7 from (HT3.out.swap.grown (by rw [TRR.out.2.2, TRR.out.1]; exact hown) hg (by simpa using hat)).swap)
          clear hown hg hat HT3 OQ d0 d1
          go_wp2_with fail
          go_roundw
          case rel => exact ⟨i + 1, ba2, ra2, bc2, rc2, hlt, by go_num, rfl, rfl, TB.out.2.2, TRR.out.2.2, HT4.out⟩
          case measure => simp [intOf]; omega
    · obtain rfl : i = n := by omega
      rw [List.take_of_length_le (by rw [List.length_reverse, H5.out.1.1]; exact Nat.le_refl _)] at htr hbl
      rw [List.take_of_length_le (by rw [rotL_length, H5.out.1.1]; exact Nat.le_refl _)] at htr hrl
      have o1 := htr.one
      have o2 := htr.two
      rw [hbl] at o1
      rw [hrl] at o2
      have P1 := (pts_own o1 (fun p hp => H5.out.1.2.1 p (List.mem_reverse.1 hp))).1
      have P2 := (pts_own o2 (fun p hp => H5.out.1.2.1 p (by
        unfold rotL at hp
        rw [List.mem_append] at hp
        rcases hp with hp | hp
        · exact List.mem_of_mem_drop hp
        · exact List.mem_of_mem_take hp))).1
      have HB := Lib.hid (And.intro P1 (And.intro P2 (And.intro (H5.out.1.below htr.old) (below_more H5.out.2 htr.old (Nat.le_refl _)))))
      have x0 := cell_keep HX5.out.1 htr.old
      have x1 := cell_keep HX5.out.2 htr.old
      have SB := Lib.hid (show shape ps.reverse = true from shape_of HS.out (List.length_reverse) (by rw [List.all_reverse]; exact HL3.out))
      have SR := Lib.hid (show shape (rotL k ps) = true from shape_of HS.out (rotL_length k ps) (rotL_all HL3.out))
      clear htr o1 o2 P1 P2 hbl hrl H5 HX5 k1 k2 k3 k4
      have CB := Lib.hid (area_yes wr ba i bc ps.reverse HB.out.1 SB.out)
      rw [area_reverse, ← HAA.out] at CB
      go_wp2_with fail
      refine CB.out.mono ?_
      rintro e w7 ⟨rfl, hb⟩
      have H7 := Lib.hid (And.intro (HB.out.2.1.below hb) (And.intro (HB.out.2.2.1.below hb) (below_more HB.out.2.2.2 hb (Nat.le_refl _))))
      have y0 := cell_keep x0 hb
      have y1 := cell_keep x1 hb
      clear hb CB HB x0 x1
      have CR := Lib.hid (area_yes w7 ra i rc (rotL k ps) H7.out.1 SR.out)
      rw [area_rotL, ← HAA.out] at CR
      go_wp2_with fail
      refine CR.out.mono ?_
      rintro e w8 ⟨rfl, hb⟩
      have H8 := Lib.hid (And.intro (H7.out.2.1.below hb) (below_more H7.out.2.2 hb (Nat.le_refl _)))
      have x0 := cell_keep y0 hb
      have x1 := cell_keep y1 hb
      clear hb CR H7 y0 y1
      have CT := Lib.hid (turn_any w8 a i c ps ⟨1, 0⟩ d H8.out.1 (by omega) ⟨by simp, by simp⟩ HD.out)
      cases hok : (shape ps && (near ⟨1, 0⟩ && near d) && (turned ps ⟨1, 0⟩ d).all near) with
      | false =>
        rw [hok] at CT
        clear hok
        go_wp2_with fail
        refine CT.out.mono ?_
        rintro e w9 ⟨rfl, hb⟩
        have H9 := Lib.hid (below_more H8.out.2 hb (Nat.le_refl _))
        clear hb CT H8 x0 x1
        have CN := Lib.hid (area_no w9 none 0 0 [] ⟨rfl, fun _ h => (by cases h), fun h => absurd h (Nat.lt_irrefl 0)⟩ (by omega) rfl)
        go_wp2_with fail
        refine CN.out.mono ?_
        rintro e w10 ⟨rfl, hb⟩
        have X := Lib.hid (below_more H9.out hb (Nat.le_refl _))
        clear hb CN H9
        go_wp2_with fail
        go_ret
        exact ⟨rfl, X.out⟩
      | true =>
        rw [hok] at CT
        rw [Bool.and_eq_true, Bool.and_eq_true] at hok
        have htl : (turned ps ⟨1, 0⟩ d).length = i := by unfold turned; rw [List.length_map, H8.out.1.1]
        have ST := Lib.hid (show shape (turned ps ⟨1, 0⟩ d) = true from shape_of HS.out (by rw [htl, H8.out.1.1]) hok.2)
        have EA := Lib.hid (show areaZ (turned ps ⟨1, 0⟩ d) = A by rw [area_turned, HAA.out]; simp)
        have HTL := Lib.hid htl
        clear hok htl
        go_wp2_with fail
        refine CT.out.mono ?_
        rintro e w9 ⟨g, he, hp, hg, hb⟩
        rw [HTL.out] at he hp
        subst he
        have H9 := Lib.hid (And.intro hp (below_more H8.out.2 hb (Nat.le_refl _)))
        clear hb CT H8 x0 x1 hp
        have CN := Lib.hid (area_yes w9 (some ⟨g, 0, none⟩) i i _ H9.out.1 ST.out)
        rw [EA.out] at CN
        go_wp2_with fail
        refine CN.out.mono ?_
        rintro e w10 ⟨rfl, hb⟩
        have X := Lib.hid (below_more H9.out.2 hb (Nat.le_refl _))
        clear hb CN H9
        go_wp2_with fail
        go_ret
        exact ⟨rfl, X.out⟩
theorem areas_law (w : World) (a : Option Addr) (n c : Nat) (ps : List Pt) (t : Int) (d : Pt) (hp : Pts w a n ps ∧ n ≤ c) (ht : -9223372036854775808 ≤ t ∧ t ≤ 9223372036854775807) (hd : Fits d) : Calls Try.prog 6 #[.slice a n c, .int .i64 t, .agg #[.int .i64 d.X, .int .i64 d.Y]] w (Yes w) := by
  by_cases h0 : 1000 < n
  · exact areas_out0 w a n c ps t d hp.1 h0
  · by_cases h1 : t < 0
    · exact areas_out1 w a n c ps t d hp.1 h0 h1
    · cases hs : shape ps with
      | false => exact areas_no w a n c ps t d hp.1 h0 h1 hs
      | true => exact areas_yes w a n c ps t d hp.1 h0 h1 ht.2 hd hs
end Go.Proofs.Ytboocllckolmgaa
