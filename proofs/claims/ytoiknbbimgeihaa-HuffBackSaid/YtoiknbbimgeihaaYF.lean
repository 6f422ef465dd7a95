/- The walk of HuffSteps, whole. -/
import Derived.Test.YtoiknbbimgeihaaYE
namespace Go.Proofs.Ytoiknbbimgeihaa
open Go.RowKit
set_option linter.unusedVariables false

theorem At.drewN {w : World} {D : Nat} {zs : List Int} {st n v : Nat} (h : At w D zs st n v) (q : Nat) : At (w.drewN q) D zs st n v := h.later (fun _ _ => rfl)

set_option maxRecDepth 100000 in
set_option maxHeartbeats 1600000 in
theorem steps_good (w : World) (a : Option Addr) (n c : Nat) (zs : List Int) (a2 : Option Addr) (m c2 : Nat) (bs : List Int) (hz : Ints w a n zs) (hb : Ints w a2 m bs) (h1 : n ≤ 400) (h2 : m ≤ 300) : Calls Try.prog 6 #[.slice a n c, .slice a2 m c2] w (Yes w) := by
  have A := Lib.hid (anchor_any w)
  have HZ := Lib.hid hz
  have HBS := Lib.hid hb
  have t0 : decide ((400 : Int) < (n : Int)) = false := by simp; omega
  have t1 : decide ((300 : Int) < (m : Int)) = false := by simp; omega
  have hln := hz.1
  clear hz hb
  subst hln
  go_enter Try.func6, Try.ntmps6
  go_wp2_with fail
  refine A.out.mono ?_
  rintro e w1 ⟨rfl, hk⟩
  have K1 := Lib.hid hk
  have Z1 := Lib.hid (HZ.out.below hk)
  have B1 := Lib.hid (HBS.out.below hk)
  clear hk
  cases hmay : mayCode zs
  · have C1 := Lib.hid (docCodes_no w1 a zs.length c zs Z1.out (by omega) hmay)
    have CN := Lib.hid (new_any w1 a zs.length c zs Z1.out (by omega))
    have HM := Lib.hid hmay
    clear hmay
    go_wp2_with fail
    refine C1.out.mono ?_
    rintro e w2 ⟨rfl, hw⟩
    obtain rfl := hw.symm
    go_wp2_with fail
    refine CN.out.mono ?_
    rintro e w3 hns
    unfold NewSay at hns
    rw [HM.out, if_neg (by simp)] at hns
    obtain ⟨rfl, hk⟩ := hns
    have K2 := Lib.hid (below_join K1.out hk (Nat.le_refl _))
    clear hk
    go_wp2_with fail
    go_ret
    exact ⟨rfl, K2.out⟩
  · have C1 := Lib.hid (docCodes_yes w1 a zs.length c zs Z1.out (by omega) hmay)
    have HM := Lib.hid hmay
    have hlen : zs.length ≤ 300 := by
      unfold mayCode lensOk at hmay
      simp only [Bool.and_eq_true, decide_eq_true_eq] at hmay
      exact hmay.1.1
    have h16 : ∀ z ∈ zs, z ≤ 16 := by
      unfold mayCode lensOk at hmay
      simp only [Bool.and_eq_true, decide_eq_true_eq] at hmay
      exact fun z hz => (hmay.1.2 z hz).2
    have H16 := Lib.hid h16
    clear hmay h16
    go_wp2_with fail
    refine C1.out.mono ?_
    rintro e w2 ht
    obtain ⟨g, rfl, hci, hb2⟩ := told_ints ht HM.out rfl
    have CN := Lib.hid (new_any w2 a zs.length c zs (Z1.out.below hb2) (by omega))
    have K2 := Lib.hid (below_join K1.out hb2 (Nat.le_refl _))
    have Z2 := Lib.hid (Z1.out.below hb2)
    have B2 := Lib.hid (B1.out.below hb2)
    have CI := Lib.hid hci
    clear ht hci hb2
    go_wp2_with fail
    refine CN.out.mono ?_
    rintro e w3 hns
    unfold NewSay at hns
    rw [HM.out, if_pos rfl] at hns
    obtain ⟨B, D, l, cc, rfl, T, hd, hb3⟩ := hns
    have K3 := Lib.hid (below_join K2.out hb3 (Nat.le_refl _))
    have Z3 := Lib.hid (Z2.out.below hb3)
    have B3 := Lib.hid (B2.out.below hb3)
    have CI3 := Lib.hid (CI.out.below hb3)
    have AT0 := Lib.hid (all_of hlen T hd)
    clear T hd hb3 K2 Z2 B2 CI Z1 B1 K1 C1 CN A
    go_wp2_with fail
    go_loopw [9, 10, 11, 53] (fun sv nv vv cnt wr => ∃ i st nn v q : Nat, i ≤ m ∧ sv = .int .i64 st ∧ nv = .int .i64 nn ∧ vv = .int .i64 v ∧ cnt = .int .i64 i ∧ At w3 D zs st nn v ∧ wr = w3.drewN q) (fun _ _ _ cnt _ => m - (intOf cnt).toNat)
    case atStart => exact ⟨0, 0, 0, 0, 0, Nat.zero_le _, rfl, rfl, rfl, rfl, AT0.out, rfl⟩
    case round =>
      obtain ⟨i, st, nn, v, q, hi, rfl, rfl, rfl, rfl, hat, rfl⟩ := hrel
      by_cases hlt : i < m
      · obtain ⟨b1, o1, z, rfl, hzz, hzb, hcz⟩ := B3.out.at hlt
        obtain ⟨b, hb2, hbit⟩ := low_bit z hzb
        obtain ⟨bst, bn, bv⟩ := hat.bound
        obtain ⟨x, y, hgo, hcs⟩ := step_at (hat.drewN q) z b hb2 hbit
        obtain ⟨n1, hn1⟩ : ∃ n1, n1 = nn + 1 := ⟨_, rfl⟩
        obtain ⟨v1, hv1⟩ : ∃ v1, v1 = 2 * v + b := ⟨_, rfl⟩
        have e1 : (nn : Int) + 1 = (n1 : Int) := by omega
        have e2 : 2 * (v : Int) + (b : Int) = (v1 : Int) := by omega
        have CF := Lib.hid (docFind_any (w3.drewN q) a zs.length c zs (some ⟨g, 0, none⟩) zs.length zs.length (codesZ zs) (n1 : Nat) (v1 : Nat) (Z3.out.later (fun _ _ => rfl)) (CI3.out.later (fun _ _ => rfl)) (Nat.le_refl _) (by omega))
        have CG := Lib.hid (docBegins_any (w3.drewN q) a zs.length c zs (some ⟨g, 0, none⟩) zs.length zs.length (codesZ zs) n1 (v1 : Nat) (Z3.out.later (fun _ _ => rfl)) H16.out (CI3.out.later (fun _ _ => rfl)) (Nat.le_refl _) (by omega))
        have CS := Lib.hid hcs
        have AT := Lib.hid hat
        have hn17 : n1 ≤ 17 := by omega
        have hv17 : v1 ≤ 131073 := by omega
        clear hcs hat hzz
        rcases hgo with ⟨s, hf, hr⟩ | ⟨t, hf, hg, hr, h0, ha⟩ | ⟨hf, hg, hr⟩
        · cases hr
          rw [← hn1, ← hv1] at hf
          have hs := (findS_is hf).1
          rw [hf] at CF
          simp only [foundZ] at CF
          clear hf CG hn1 hv1
          go_wp2_with fail
          refine CS.out.mono ?_
          rintro e w5 ⟨rfl, hw⟩
          obtain rfl := hw.symm
          go_wp2_with fail
          refine CF.out.mono ?_
          rintro e w5 ⟨rfl, hw⟩
          obtain rfl := hw.symm
          go_wp2_with fail
          go_roundw
          case rel => exact ⟨i + 1, 0, 0, 0, q, hlt, rfl, rfl, rfl, by go_num, AT.out.start, rfl⟩
          case measure => simp [intOf]; omega
        · cases hr
          rw [← hn1, ← hv1] at hf hg ha
          rw [hf] at CF
          rw [hg] at CG
          simp only [foundZ] at CF
          have HA := Lib.hid (show At w3 D zs t n1 v1 from ha.later (fun _ _ => rfl))
          have t48 := ha.bound.1
          have u1 : decide ((t : Int) ≤ 0) = false := decide_eq_false (by omega)
          clear hf hg ha hn1 hv1
          go_wp2_with fail
          refine CS.out.mono ?_
          rintro e w5 ⟨rfl, hw⟩
          obtain rfl := hw.symm
          go_wp2_with fail
          refine CF.out.mono ?_
          rintro e w5 ⟨rfl, hw⟩
          obtain rfl := hw.symm
          go_wp2_with fail
          refine CG.out.mono ?_
          rintro e w5 ⟨rfl, q2, rfl⟩
          go_wp2_with fail
          go_roundw
          case rel => exact ⟨i + 1, t, n1, v1, q + q2, hlt, rfl, rfl, rfl, by go_num, HA.out, by simp⟩
          case measure => simp [intOf]; omega
        · cases hr
          rw [← hn1, ← hv1] at hf hg
          rw [hf] at CF
          rw [hg] at CG
          simp only [foundZ] at CF
          clear hf hg hn1 hv1
          go_wp2_with fail
          refine CS.out.mono ?_
          rintro e w5 ⟨rfl, hw⟩
          obtain rfl := hw.symm
          go_wp2_with fail
          refine CF.out.mono ?_
          rintro e w5 ⟨rfl, hw⟩
          obtain rfl := hw.symm
          go_wp2_with fail
          refine CG.out.mono ?_
          rintro e w5 ⟨rfl, q2, rfl⟩
          have CO := Lib.hid (step_off (AT.out.later (w' := w3.drewN (q + q2)) (fun _ _ => rfl)) 0 0 (by omega) (by decide))
          go_wp2_with fail
          refine CO.out.mono ?_
          rintro e w5 ⟨rfl, hw⟩
          obtain rfl := hw.symm
          go_wp2_with fail
          go_ret
          exact ⟨rfl, ⟨K3.out.os, K3.out.tape, K3.out.output, K3.out.size, K3.out.block⟩⟩
      · obtain rfl : m = i := by omega
        go_wp2_with fail
        go_ret
        exact ⟨rfl, ⟨K3.out.os, K3.out.tape, K3.out.output, K3.out.size, K3.out.block⟩⟩
theorem steps_law (w : World) (a : Option Addr) (n c : Nat) (zs : List Int) (a2 : Option Addr) (m c2 : Nat) (bs : List Int) (hz : Ints w a n zs) (hb : Ints w a2 m bs) : Calls Try.prog 6 #[.slice a n c, .slice a2 m c2] w (Yes w) := by
  by_cases h : 400 < n ∨ 300 < m
  · exact steps_long w a n c a2 m c2 h
  · exact steps_good w a n c zs a2 m c2 bs hz hb (by omega) (by omega)
end Go.Proofs.Ytoiknbbimgeihaa
