/- HuffLeast's walk where lengths are there. -/
import Derived.Test.YtoiknbbimgeihaaT
namespace Go.Proofs.Ytoiknbbimgeihaa
open Go.RowKit
set_option linter.unusedVariables false

theorem wrap64_id (n : Int) (h : -9223372036854775808 ≤ n ∧ n ≤ 9223372036854775807) : wrap64 n = n := by unfold wrap64; omega
theorem cost_bound {zs ls : List Int} {most : Nat} (hb : Best zs ls most) (hz : ∀ z ∈ zs, 0 ≤ z ∧ z ≤ 1099511627776) (hm : most ≤ 16) (k : Nat) (hk : k ≤ zs.length) : 0 ≤ cost zs ls k ∧ cost zs ls k ≤ 17592186044416 * (k : Int) := by
  induction k with
  | zero => exact ⟨by unfold cost; simp, by unfold cost; simp⟩
  | succ k ih =>
    have h := ih (by omega)
    rw [cost_succ]
    have hzk := hz _ (getD_mem (show k < zs.length by omega))
    have hlk : 0 ≤ zs.getD k 0 * ls.getD k 0 ∧ zs.getD k 0 * ls.getD k 0 ≤ 17592186044416 := by
      by_cases h0 : zs.getD k 0 = 0
      · rw [h0]; omega
      · have hp := hb.pos k (by omega) (by omega)
        generalize zs.getD k 0 = a at *
        generalize ls.getD k 0 = b at *
        refine ⟨Int.mul_nonneg (by omega) (by omega), ?_⟩
        have h1 : a * b ≤ 1099511627776 * b := Int.mul_le_mul_of_nonneg_right hzk.2 (by omega)
        omega
    omega
theorem len_best {zs ls : List Int} {most : Nat} (hb : Best zs ls most) (hz : ∀ z ∈ zs, 0 ≤ z) (i : Nat) (hi : i < zs.length) : (zs.getD i 0 = 0 → ls.getD i 0 = 0) ∧ (zs.getD i 0 ≠ 0 → 1 ≤ ls.getD i 0) ∧ ls.getD i 0 ≤ most := by
  by_cases h0 : zs.getD i 0 = 0
  · have := hb.zero i hi h0
    exact ⟨fun _ => this, fun h => absurd h0 h, by omega⟩
  · have := hz _ (getD_mem hi)
    have hp := hb.pos i hi (by omega)
    exact ⟨fun h => absurd h h0, fun _ => hp.1, hp.2⟩

set_option maxRecDepth 100000 in
set_option maxHeartbeats 2000000 in
theorem huffLeast_good (HA : AnchorSays) (HL : LengthsSays) (w : World) (a : Option Addr) (n c : Nat) (zs : List Int) (most : Int) (hz : Ints w a n zs)  (hg : good zs most = true) : Calls Try.prog 3 #[.slice a n c, .int .i64 most] w (Yes w) := by
  have ⟨h1, h2, h3, h4, h5⟩ : 1 ≤ most ∧ most ≤ 16 ∧ zs.length ≤ 300 ∧ (∀ z ∈ zs, 0 ≤ z ∧ z ≤ 1099511627776) ∧ (posI zs).length ≤ 2 ^ most.toNat := by
    have hg' := hg
    unfold good at hg'
    exact of_decide_eq_true hg'
  have h3 : n ≤ 300 := by rw [← hz.1]; exact h3
  have H4 := Lib.hid h4
  have H5 := Lib.hid h5
  clear h4 h5
  have A := Lib.hid (HA w)
  have HZ := Lib.hid hz
  have HL := Lib.hid HL
  have t0 : decide ((1000 : Int) < n) = false := by simp; omega
  have d3 : decide ((n : Int) ≤ 300) = true := by simp; omega
  have hln : zs.length = n := hz.1
  have HR0 := Lib.hid (rightN_zero (zs := zs) (most := most) ⟨h1, h2, by omega⟩)
  have HG0 := Lib.hid hg
  have HGR := Lib.hid (good_right zs most)
  have HAA := Lib.hid (above_all zs)
  have HLN := Lib.hid hln
  clear hz HA hg hln
  go_enter Try.func3, Try.ntmps3
  go_wp2_with fail
  refine A.out.mono ?_
  rintro e w1 ⟨rfl, hk⟩
  have Z1 := Lib.hid (HZ.out.below hk)
  have K1 := Lib.hid hk
  clear hk
  go_wp2
  go_loopw [5, 6, 34] (fun rv nv cnt wr => ∃ i : Nat, i ≤ n ∧ cnt = .int .i64 i ∧ rv = .bool (rightN zs most i) ∧ nv = .int .i64 (above zs i : Nat) ∧ wr = w1) (fun _ _ cnt _ => n - (intOf cnt).toNat)
  case atStart => exact ⟨0, Nat.zero_le _, rfl, by rw [HR0.out], rfl, rfl⟩
  case round =>
    obtain ⟨i, hi, rfl, rfl, rfl, rfl⟩ := hrel
    by_cases hlt : i < n
    · obtain ⟨b0, o0, z, rfl, hz, hzb, hcz⟩ := Z1.out.at hlt
      have hab := above_succ zs i
      rw [getD_of hz] at hab
      have hal := above_le zs i
      have hRN : (¬ (0 ≤ z ∧ z ≤ 1099511627776) → rightN zs most (i + 1) = false) ∧ ((0 ≤ z ∧ z ≤ 1099511627776) → rightN zs most (i + 1) = rightN zs most i) := by
        have e := getD_of hz
        exact ⟨fun h => rightN_not (by rw [e]; exact h), fun h => rightN_yes (by rw [e]; exact h)⟩
      obtain ⟨k, hk⟩ : ∃ k, k = above zs i := ⟨_, rfl⟩
      rw [← hk] at hab hal ⊢
      obtain ⟨k', hk'⟩ : ∃ k', k' = above zs (i + 1) := ⟨_, rfl⟩
      rw [← hk'] at hab
      obtain ⟨r, hr⟩ : ∃ r, r = rightN zs most i := ⟨_, rfl⟩
      obtain ⟨r', hr'⟩ : ∃ r', r' = rightN zs most (i + 1) := ⟨_, rfl⟩
      rw [← hr, ← hr'] at hRN
      rw [← hr]
      have HK' := Lib.hid hk'
      have HR' := Lib.hid hr'
      have HRN := Lib.hid hRN
      clear hk hk' hz hr hr' hRN
      by_cases hp : 0 < z
      · rw [if_pos hp] at hab
        have HAB := Lib.hid hab
        clear hab
        cases r with
        | false =>
          have hf : r' = false := by
            by_cases hin : 0 ≤ z ∧ z ≤ 1099511627776
            · exact HRN.out.2 hin
            · exact HRN.out.1 hin
          have HF := Lib.hid hf
          clear HRN hf
          go_wp2
          go_roundw
          case rel => exact ⟨i + 1, by omega, by go_num, by rw [← HR'.out, HF.out], by rw [← HK'.out, HAB.out]; simp, trivial⟩
          case measure => simp [intOf]; omega
        | true =>
          by_cases hle : z ≤ 1099511627776
          · have HF := Lib.hid (HRN.out.2 ⟨by omega, hle⟩)
            clear HRN
            go_wp2
            go_roundw
            case rel => exact ⟨i + 1, by omega, by go_num, by rw [← HR'.out, HF.out], by rw [← HK'.out, HAB.out]; simp, trivial⟩
            case measure => simp [intOf]; omega
          · have HF := Lib.hid (HRN.out.1 (fun h => hle h.2))
            clear HRN
            go_wp2
            go_roundw
            case rel => exact ⟨i + 1, by omega, by go_num, by rw [← HR'.out, HF.out], by rw [← HK'.out, HAB.out]; simp, trivial⟩
            case measure => simp [intOf]; omega
      · rw [if_neg hp] at hab
        have HAB := Lib.hid hab
        clear hab
        cases r with
        | false =>
          have hf : r' = false := by
            by_cases hin : 0 ≤ z ∧ z ≤ 1099511627776
            · exact HRN.out.2 hin
            · exact HRN.out.1 hin
          have HF := Lib.hid hf
          clear HRN hf
          go_wp2
          go_roundw
          case rel => exact ⟨i + 1, by omega, by go_num, by rw [← HR'.out, HF.out], by rw [← HK'.out, HAB.out]; simp, trivial⟩
          case measure => simp [intOf]; omega
        | true =>
          by_cases hge : 0 ≤ z
          · have hle : z ≤ 1099511627776 := by omega
            have HF := Lib.hid (HRN.out.2 ⟨hge, hle⟩)
            clear HRN
            go_wp2
            go_roundw
            case rel => exact ⟨i + 1, by omega, by go_num, by rw [← HR'.out, HF.out], by rw [← HK'.out, HAB.out]; simp, trivial⟩
            case measure => simp [intOf]; omega
          · have HF := Lib.hid (HRN.out.1 (fun h => hge h.1))
            clear HRN
            go_wp2
            go_roundw
            case rel => exact ⟨i + 1, by omega, by go_num, by rw [← HR'.out, HF.out], by rw [← HK'.out, HAB.out]; simp, trivial⟩
            case measure => simp [intOf]; omega
    · obtain rfl : i = n := by omega
      have C1 := Lib.hid (HL.out wr a i c zs most Z1.out (by omega) (by omega) (by omega))
      have hgr : rightN zs most i = true := by
        have := HGR.out
        rw [HG0.out, HLN.out] at this
        cases hr : rightN zs most i with
        | true => rfl
        | false => rw [hr] at this; simp at this
      rw [hgr]
      have hai : above zs i = (posI zs).length := by
        have e := HAA.out
        rw [HLN.out] at e
        exact e
      obtain ⟨k, hk⟩ : ∃ k, k = above zs i := ⟨_, rfl⟩
      have hal := above_le zs i
      rw [← hk] at hal hai
      rw [← hk]
      have hsm : (k : Int) ≤ wrap64 (2 ^ most.toNat) := by rw [wrap_pow (by omega), hai]; exact_mod_cast H5.out
      have hs2 : decide (wrap64 (2 ^ most.toNat) < (k : Int)) = false := by simp; omega
      have HK := Lib.hid hai
      clear hk hgr hai HGR HAA
      go_wp2_with fail
      refine C1.out.mono ?_
      rintro e w2 ht
      unfold LengthsSay at ht
      rw [HG0.out] at ht
      simp only [if_true] at ht
      obtain ⟨aa, cap, ls, rfl, hi2, hcap, hbest, hk⟩ := ht
      have K2 := Lib.hid (below_more K1.out hk (Nat.le_refl _))
      have Z2 := Lib.hid (Z1.out.below hk)
      have HI := Lib.hid hi2
      have HB := Lib.hid hbest
      have HZ0 := Lib.hid (show ∀ z ∈ zs, 0 ≤ z from fun z hz => (H4.out z hz).1)
      have hlens := best_lens hbest HZ0.out (by rw [HLN.out]; omega) (by omega)
      have hl1 := hlens.1
      have hl2 := hlens.2
      have CW := Lib.hid (docWeight_any w2 aa i cap ls hi2 (by omega))
      rw [hl1] at CW
      obtain ⟨wt, hwt⟩ : ∃ wt, wt = weightZ ls := ⟨_, rfl⟩
      rw [← hwt] at CW hl2
      have HCB := Lib.hid (fun k hk => cost_bound hbest H4.out (by omega) k hk)
      have HLB := Lib.hid (fun j hj => len_best hbest HZ0.out j hj)
      clear hk hi2 hbest C1 hlens hl1 hwt hal
      go_wp2_with fail
      refine CW.out.mono ?_
      rintro e w3 ⟨rfl, rfl⟩
      clear CW
      go_wp2
      go_loopw [13, 97] (fun cv cnt wr => ∃ j q : Nat, j ≤ i ∧ cnt = .int .i64 j ∧ cv = .int .i64 (cost zs ls j) ∧ wr = w3.drewN q) (fun _ cnt _ => i - (intOf cnt).toNat)
      case atStart => exact ⟨0, 0, Nat.zero_le _, rfl, rfl, rfl⟩
      case round =>
        obtain ⟨j, q, hj, rfl, rfl, rfl⟩ := hrel
        have hcb := HCB.out j (by rw [HLN.out]; exact hj)
        by_cases hlt : j < i
        · obtain ⟨b0, o0, z, rfl, hz, hzb, hcz⟩ := Z2.out.at hlt
          obtain ⟨b1, o1, li, rfl, hli, _, hcl⟩ := HI.out.at hlt
          have hcs := cost_succ zs ls j
          have hcb2 := HCB.out (j + 1) (by rw [HLN.out]; omega)
          have hlb := HLB.out j (by rw [HLN.out]; exact hlt)
          rw [getD_of hz, getD_of hli] at hcs
          rw [getD_of hz, getD_of hli] at hlb
          obtain ⟨k1, hk1⟩ : ∃ k1, k1 = cost zs ls j := ⟨_, rfl⟩
          obtain ⟨k2, hk2⟩ : ∃ k2, k2 = cost zs ls (j + 1) := ⟨_, rfl⟩
          obtain ⟨pr, hpr⟩ : ∃ pr, pr = z * li := ⟨_, rfl⟩
          rw [← hk1, ← hk2, ← hpr] at hcs
          rw [← hk1] at hcb ⊢
          rw [← hk2] at hcb2
          have hpb : wrap64 (z * li) = pr := by rw [← hpr]; exact wrap64_id _ ⟨by omega, by omega⟩
          have hsb : wrap64 (k1 + pr) = k2 := by rw [hcs]; exact wrap64_id _ ⟨by omega, by omega⟩
          have d2 : decide (most < li) = false := by simp; omega
          have HK2 := Lib.hid hk2
          have HK1 := Lib.hid hk1
          have hz0 : z = 0 → wrap64 k1 = k2 := by
            intro e0
            rw [e0, Int.zero_mul] at hpr
            rw [hpr, Int.add_zero] at hsb
            exact hsb
          have HS0 := Lib.hid hz0
          clear hz0
          clear hk1 hk2 hz hli hcs hcb hcb2 hpr
          by_cases c0 : z = 0
          · have l0 : li = 0 := hlb.1 c0
            have d0 : (z == 0) = true := by simp [c0]
            have d1 : (li == 0) = true := by simp [l0]
            clear hlb
            go_wp2
            go_roundw
            case rel => exact ⟨j + 1, q, by omega, by go_num, by rw [← HK2.out, HS0.out c0], rfl⟩
            case measure => simp [intOf]; omega
          · have l0 : ¬ li = 0 := by have := hlb.2.1 c0; omega
            have d0 : (z == 0) = false := by simp [c0]
            have d1 : (li == 0) = false := by simp [l0]
            clear hlb
            go_wp2
            go_roundw
            case rel => exact ⟨j + 1, q, by omega, by go_num, by rw [← HK2.out, hsb], rfl⟩
            case measure => simp [intOf]; omega
        · obtain rfl : j = i := by omega
          have KD := Lib.hid (show Below w.heap.size w (w3.drewN q) from ⟨K2.out.os, K2.out.tape, K2.out.output, K2.out.size, K2.out.block⟩)
          by_cases c4 : k ≤ 40
          · have d4 : decide ((40 : Int) < (k : Int)) = false := by simp; omega
            have CL := Lib.hid (show ∀ (W : World) (b : Option Addr) (d : Nat), Ints W b (sortD [] zs).length (sortD [] zs) → Calls Try.prog 13 #[.slice b (sortD [] zs).length d, .int .i64 most] W fun e w' => e = .returned (.int .i64 (cost zs ls zs.length)) ∧ Below W.heap.size W w' from by
              intro W b d hI
              have e : most = ((most.toNat - 1 + 1 : Nat) : Int) := by omega
              have hb' : Best zs ls (most.toNat - 1 + 1) := by rw [show most.toNat - 1 + 1 = most.toNat by omega]; exact HB.out
              have h := least_cost hb' H4.out (by omega) (by have := HK.out; omega) W b d hI
              rw [← e] at h
              exact h)
            have HIN := Lib.hid (show ∀ z ∈ sortD [] zs, -9223372036854775808 ≤ z ∧ z ≤ 9223372036854775807 from fun z hz => by
              have h := (sortD_perm [] zs).mem_iff.1 hz
              rw [List.nil_append] at h
              have := H4.out z (List.mem_filter.1 h).1
              omega)
            have CS := Lib.hid (sorted_any (w3.drewN q) a j c zs (Z2.out.later (fun _ _ => rfl)) (by omega))
            have hcj : cost zs ls j = cost zs ls zs.length := by rw [HLN.out]
            rw [hcj]
            generalize cost zs ls zs.length = co at *
            generalize sortD [] zs = so at *
            go_wp2_with fail
            refine CS.out.mono ?_
            rintro e w4 ⟨ab, cap4, rfl, hown, hb4⟩
            have K4 := Lib.hid (below_more KD.out hb4 (Nat.le_refl _))
            have C5 := Lib.hid (CL.out w4 ab cap4 (own_ints hown HIN.out).1)
            clear hown hb4
            go_wp2_with fail
            refine C5.out.mono ?_
            rintro e w5 ⟨rfl, hb5⟩
            have K5 := Lib.hid (below_more K4.out hb5 (Nat.le_refl _))
            clear hb5
            go_wp2
            go_ret
            exact ⟨rfl, K5.out⟩
          · have d4 : decide ((40 : Int) < (k : Int)) = true := by simp; omega
            go_wp2
            go_ret
            exact ⟨rfl, KD.out⟩
end Go.Proofs.Ytoiknbbimgeihaa
