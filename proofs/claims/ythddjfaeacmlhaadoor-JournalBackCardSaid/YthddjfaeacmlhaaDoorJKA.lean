/- The walk of JournalBack. -/
import Derived.Test.YthddjfaeacmlhaaDoorJK
namespace Go.Proofs.YthddjfaeacmlhaaDoor
open Go.RowKit Jr
set_option linter.unusedVariables false

theorem int_bounds {n : Int} (h : (Lit.int .i64 n).wf = true) : -9223372036854775808 ≤ n ∧ n ≤ 9223372036854775807 := by
  simp [Lit.wf, IntKind.min, IntKind.max, IntKind.signed, IntKind.bits] at h
  omega
set_option maxHeartbeats 800000 in
theorem back_out (w : World) (a : Option Addr) (n c : Nat) (cut : Int) (hF : Fours w) (h : 30 < n ∨ cut < 0) : Calls Tryd.prog 4 #[.slice a n c, .int .i64 cut] w (Yes w) := by
  have A := Lib.hid (anchor_any w hF)
  clear hF
  by_cases h0 : 30 < n
  · have t0 : decide ((30 : Int) < n) = true := by simp; omega
    go_enter Tryd.func4, Tryd.ntmps4
    go_wp2_with fail
    refine A.out.mono ?_
    rintro e w1 ⟨rfl, hk⟩
    have HK := Lib.hid hk
    clear hk
    go_wp2_with fail
    go_ret
    exact ⟨rfl, HK.out⟩
  · have t0 : decide ((30 : Int) < n) = false := by simp; omega
    have t1 : decide (cut < 0) = true := by simp; omega
    go_enter Tryd.func4, Tryd.ntmps4
    go_wp2_with fail
    refine A.out.mono ?_
    rintro e w1 ⟨rfl, hk⟩
    have HK := Lib.hid hk
    clear hk
    go_wp2_with fail
    go_ret
    exact ⟨rfl, HK.out⟩
set_option maxRecDepth 100000 in
set_option maxHeartbeats 3200000 in
theorem back_good (w : World) (a : Option Addr) (n c : Nat) (ls : List (List Nat)) (q : Nat) (hF : Fours w) (hT : Tx w (fun _ => True) a n c ls) (hn : n ≤ 30) (hq : q < 9223372036854775808) : Calls Tryd.prog 4 #[.slice a n c, .int .i64 q] w (Yes w) := by
  have A := Lib.hid (anchor_any w hF)
  have t0 : decide ((30 : Int) < n) = false := by simp; omega
  have t1 : decide ((q : Int) < 0) = false := by simp
  have HT := Lib.hid hT
  have HF := Lib.hid hF
  have HN := Lib.hid hT.len
  clear hT hF
  go_enter Tryd.func4, Tryd.ntmps4
  go_wp2_with fail
  refine A.out.mono ?_
  rintro e w1 ⟨rfl, hk⟩
  have R0 := Lib.hid (Rows.start ls 500 hk)
  clear hk
  go_wp2_with fail
  go_loopw [5, 25] (fun o cnt wr => ∃ (i T cc : Nat) (aa : Option Addr), i ≤ n ∧ o = .slice aa T cc ∧ cnt = .int .i64 i ∧ Rows w ls 500 i aa T cc wr) (fun _ cnt _ => n - (intOf cnt).toNat)
  case atStart => exact ⟨0, 0, 0, none, Nat.zero_le _, rfl, rfl, R0.out⟩
  case round =>
    obtain ⟨i, T, cc, aa, hi, rfl, rfl, hR⟩ := hrel
    have HR := Lib.hid hR
    have hTl := hR.short
    clear hR
    by_cases hlt : i < n
    · obtain ⟨b, off, p, a', m, c', rfl, hp, hcell, hA, _⟩ := (HT.out.below HR.out.below).at hlt
      have HP := Lib.hid (And.intro hp (And.intro hA.len hA))
      by_cases hbig : 500 < m
      · have t2 : decide ((500 : Int) < m) = true := by simp; omega
        clear hp hA
        go_wp2_with fail
        go_ret
        exact ⟨rfl, HR.out.below⟩
      · have t2 : decide ((500 : Int) < m) = false := by simp; omega
        have C := Lib.hid (record_any wr a' m c' p hA (by omega) (HF.out.below HR.out.below))
        clear hp hA
        go_wp2_with fail
        refine C.out.mono ?_
        rintro e w2 ⟨a2, c2, rfl, ho2, hb2⟩
        rw [HP.out.2.1] at ho2 ⊢
        have k2 := arg_of_own ho2 (recd_byte HP.out.2.2.byte)
        have H2 := Lib.hid (And.intro (HR.out.kept hb2) (And.intro k2 hb2))
        have hs2 := (below_more HR.out.below hb2 (Nat.le_refl _)).size
        clear ho2 k2 hb2
        go_wp2_with (at_builtin; go_must (refine wpList_append_text rfl (.tmp 39) (.tmp 40) rfl w.heap.size T (.slice aa T cc) (recs (ls.take i)) rfl H2.out.1 a2 (m + 8) c2 (recd p) rfl H2.out.2.1.1 H2.out.2.1.2.2 (by omega) (by omega) hs2 ?e4))
        intro a3 c3 w3 ho3 hg3 _
        have X := HR.out.step HP.out.1 (by rw [HP.out.2.1]; omega) HP.out.2.2.byte H2.out.2.2 (by rw [HP.out.2.1]; exact ho3) hg3
        rw [HP.out.2.1] at X
        have X := Lib.hid X
        clear ho3 hg3
        go_wp2_with fail
        go_roundw
        case rel => exact ⟨i + 1, T + (m + 8), c3, a3, hlt, rfl, by go_num, X.out⟩
        case measure => simp [intOf]; omega
    · obtain rfl : i = n := by omega
      have hW := HR.out
      have e : ls.take i = ls := by rw [List.take_of_length_le (by rw [HN.out]; exact Nat.le_refl _)]
      have hown := hW.own
      have hTl2 := hW.len
      have hfit := hW.fit
      rw [e] at hown hTl2 hfit
      have hf := fit_of (by omega) hfit
      have hrb := recs_byte hf
      have kA := arg_of_own hown hrb
      have C1 := scan_any wr aa T cc (recs ls) kA (by omega) (HF.out.below hW.below)
      rw [scan_all hf, ← hTl2] at C1
      have C1 := Lib.hid C1
      have HA := Lib.hid kA
      have HTL := Lib.hid hTl2
      have HFT := Lib.hid (And.intro hf hfit)
      clear hW e hown hTl2 hfit hf hrb kA
      go_wp2_with fail
      refine C1.out.mono ?_
      rintro e w2 ⟨a2, c2, rfl, hT2, hb2⟩
      have hk2 := below_more HR.out.below hb2 (Nat.le_refl _)
      rw [HN.out] at hT2 ⊢
      have CS := sameL_any w2 _ _ _ _ _ _ _ _ _ _ hT2 (HT.out.below hk2) (by omega) (by omega) (fun p hp => by have := (HFT.out.1 p hp).1; omega) (fun p hp => by have := (HFT.out.1 p hp).1; omega)
      rw [decide_eq_true rfl] at CS
      have CS := Lib.hid CS
      have HK2 := Lib.hid hk2
      have HB2 := Lib.hid hb2
      clear hT2 hb2 hk2
      go_wp2_with fail
      refine CS.out.mono ?_
      rintro e w3 ⟨rfl, hb3⟩
      have HK3 := Lib.hid (below_more HK2.out hb3 (Nat.le_refl _))
      have HB3 := Lib.hid (below_more HB2.out hb3 (Nat.le_refl _))
      clear hb3
      by_cases h0 : i = 0
      · have u0 : ((i : Int) == 0) = true := by simp; omega
        have u1 : decide ((i : Int) = 0) = true := by simp; omega
        subst h0
        go_wp2_with fail
        go_ret
        exact ⟨rfl, HK3.out⟩
      · have u0 : ((i : Int) == 0) = false := by simp; omega
        have u1 : decide ((i : Int) = 0) = false := by simp; omega
        obtain ⟨L, hL⟩ : ∃ L, i = L + 1 := ⟨i - 1, by omega⟩
        have hLi : L < i := by omega
        have hwL : wrap64 ((i : Int) - 1) = (L : Int) := by rw [w64 _ (by omega) (by omega)]; omega
        obtain ⟨b, off, p, a', m, c', rfl, hp, hcell, hA, _⟩ := (HT.out.below HK3.out).at hLi
        have hLI : (L : Int) < (i : Int) := by omega
        have hpm := hA.len
        obtain ⟨k, hk⟩ : ∃ k, k = 1 + q % (m + 8) := ⟨_, rfl⟩
        have hk1 : 1 ≤ k := by omega
        have hk2 : k ≤ m + 8 := by have := Nat.mod_lt q (show 0 < m + 8 by omega); omega
        have hT8 : m + 8 ≤ T := by
          have e := last_split hp (by rw [HN.out, hL])
          have e2 := congrArg recs e
          rw [recs_snoc] at e2
          have e3 := congrArg List.length e2
          rw [List.length_append, recd_length, ← HTL.out] at e3
          omega
        have hT9 : T ≤ 15240 := by have : i * 508 ≤ 30 * 508 := Nat.mul_le_mul_right _ hn; omega
        obtain ⟨V, hV⟩ : ∃ V, V = T - k := ⟨_, rfl⟩
        have hVc : V ≤ cc := by have := HA.out.2.1; omega
        obtain ⟨E2, hE2⟩ : ∃ E2, E2 = T - 8 - m := ⟨_, rfl⟩
        have hcl := cut_last HFT.out.1 hp (by rw [HN.out, hL]) hk1 (by omega)
        rw [← HTL.out, ← hV, hpm, ← hE2] at hcl
        have C2 := scan_any w3 aa V cc _ ((HA.out.below HB3.out).take (k := V) (by omega)) (by omega) (HF.out.below HK3.out)
        rw [hcl] at C2
        have hlL : (ls.take L).length = L := by rw [List.length_take, HN.out]; omega
        have C2 := Lib.hid C2
        have HLL := Lib.hid hlL
        have u5 : ((E2 : Int) == (T : Int) - 8 - (m : Int)) = true := by simp; omega
        have u6 : decide ((E2 : Int) = (T : Int) - 8 - (m : Int)) = true := by simp; omega
        have HSK := Lib.hid (show wrap64 (1 + (q : Int) % ((m : Int) + 8)) = (k : Int) by
          have e : (q : Int) % ((m : Int) + 8) = ((q % (m + 8) : Nat) : Int) := by simp
          rw [e, w64 _ (by omega) (by omega)]; omega)
        have HSV := Lib.hid (show wrap64 ((T : Int) - (k : Int)) = (V : Int) by rw [w64 _ (by omega) (by omega)]; omega)
        have hLc : L ≤ c := by have := HT.out.2.1; omega
        have HNN := Lib.hid (And.intro hn (And.intro hT8 hT9))
        clear hlL hcl hk hE2 hV
        have hm5 : m ≤ 500 := by have := (HFT.out.2 p (List.mem_of_getElem? hp)).1; omega
        have hmp : ((m : Int) + 8 == 0) = false := by simp; omega
        have hmp2 : ¬ ((m : Int) + 8 = 0) := by omega
        have HP := Lib.hid (And.intro hp (And.intro hpm hA))
        have HL := Lib.hid hL
        clear hp hA hpm hL hn t0 t1 hTl hi hlt h0 hLi
        clear hT8 hT9
        go_upto_region 23 with (fail)
        rw [HSK.out, hwL]
        have hwV := HSV.out
        clear hwL
        go_wp2_with fail
        refine C2.out.mono ?_
        rintro e w4 ⟨a4, c4, rfl, hT4, hb4⟩
        rw [HLL.out] at hT4 ⊢
        have hk4 := below_more HK3.out hb4 (Nat.le_refl _)
        obtain ⟨hn, hT8, hT9⟩ := HNN.out
        have CS2 := sameL_any w4 _ _ _ _ _ _ _ _ _ _ hT4 ((HT.out.below hk4).take (k := L) (by omega)) (by omega) (by omega) (fun p hp => by have := (HFT.out.1 p (List.mem_of_mem_take hp)).1; omega) (fun p hp => by have := (HFT.out.1 p (List.mem_of_mem_take hp)).1; omega)
        rw [decide_eq_true rfl] at CS2
        have CS2 := Lib.hid CS2
        have HK4 := Lib.hid hk4
        have hcell4 : w4.cell? ⟨b, off + L, none⟩ = some (.slice a' m c') := (World.cell?_of_block (w := w3) (hb4.block _ (World.block_lt_of_cell? w3 _ hcell))).trans hcell
        clear hT4 hb4 hk4 hcell hwV hn
        go_wp2_with fail
        refine CS2.out.mono ?_
        rintro e w5 ⟨rfl, hb5⟩
        have X := Lib.hid (show Yes w (.returned (.bool true)) w5 from ⟨rfl, below_more HK4.out hb5 (Nat.le_refl _)⟩)
        have hcell5 : w5.cell? ⟨b, off + L, none⟩ = some (.slice a' m c') := (World.cell?_of_block (w := w4) (hb5.block _ (World.block_lt_of_cell? w4 _ hcell4))).trans hcell4
        clear hb5 hcell4
        go_wp2_with fail
        go_ret
        exact X.out
theorem back_any (w : World) (a : Option Addr) (n c : Nat) (ls : List (List Nat)) (cut : Int) (hF : Fours w) (hT : Tx w (fun _ => True) a n c ls) (hc : -9223372036854775808 ≤ cut ∧ cut ≤ 9223372036854775807) : Calls Tryd.prog 4 #[.slice a n c, .int .i64 cut] w (Yes w) := by
  by_cases h : 30 < n ∨ cut < 0
  · exact back_out w a n c cut hF h
  · obtain ⟨q, rfl⟩ := Int.eq_ofNat_of_zero_le (show 0 ≤ cut by omega)
    exact back_good w a n c ls q hF hT (by omega) (by omega)
end Go.Proofs.YthddjfaeacmlhaaDoor
