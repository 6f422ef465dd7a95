/- The walk of HuffBack. -/
import Derived.Test.YtoiknbbimgeihaaYG
namespace Go.Proofs.Ytoiknbbimgeihaa
open Go.RowKit
set_option linter.unusedVariables false

/-- What is met along a symbol's code. -/
structure Way (zs : List Int) (s L C : Nat) : Prop where
  lt : s < zs.length
  len : zs[s]? = some (L : Int)
  code : (codesZ zs)[s]? = some (C : Int)
  pos : 1 ≤ L
  le : L ≤ 16
  below : C < 2 ^ L
  amid : ∀ k, 1 ≤ k → k < L → findS zs (codesZ zs) (k : Nat) ((C / 2 ^ (L - k) : Nat) : Int) zs.length = none ∧ beginsS zs (codesZ zs) (k : Nat) ((C / 2 ^ (L - k) : Nat) : Int) zs.length = true
  ended : findS zs (codesZ zs) (L : Nat) (C : Int) zs.length = some s
theorem way_of {zs : List Int} (hm : mayCode zs = true) {s : Nat} (hs : s < zs.length) (h0 : zs.getD s 0 ≠ 0) : ∃ L C, Way zs s L C := by
  have hl : lensOk zs = true := by unfold mayCode at hm; rw [Bool.and_eq_true] at hm; exact hm.1
  obtain ⟨hle, hrm⟩ := may_rooms hm
  obtain ⟨q1, q2⟩ := nats_at hl hs
  have h1 : 1 ≤ (nats zs).getD s 0 := by omega
  have ha := fun k h1 h2 => amid hm hs (k := k) h1 h2
  have he := ended hm hs h1
  have hc := codesZ_at (zs := zs) hs
  have hb := code_below (nats zs) s (by rw [nats_length]; exact hs) h1 q2 hrm
  have hcl : s < (codesZ zs).length := by rw [codesZ_length]; exact hs
  generalize outOf (nats zs) (Huff.ordered (nats zs) 16) s = C at *
  generalize (nats zs).getD s 0 = L at *
  refine ⟨L, C, hs, ?_, ?_, h1, q2, hb, ha, he⟩
  · rw [List.getElem?_eq_getElem hs]
    rw [List.getD_eq_getElem?_getD, List.getElem?_eq_getElem hs] at q1
    exact congrArg some q1
  · rw [List.getElem?_eq_getElem hcl]
    rw [List.getD_eq_getElem?_getD, List.getElem?_eq_getElem hcl] at hc
    exact congrArg some hc

set_option maxRecDepth 100000 in
set_option maxHeartbeats 1600000 in
theorem back_long (w : World) (a : Option Addr) (n c : Nat) (x : Int) (a2 : Option Addr) (m c2 : Nat) (h : 300 < n ∨ 300 < m) : Calls Try.prog 7 #[.slice a n c, .int .i64 x, .slice a2 m c2] w (Yes w) := by
  have A := Lib.hid (anchor_any w)
  by_cases h1 : 300 < n
  · have t0 : decide ((300 : Int) < (n : Int)) = true := by simp; omega
    clear h
    go_enter Try.func7, Try.ntmps7
    go_wp2_with fail
    refine A.out.mono ?_
    rintro e w1 ⟨rfl, hk⟩
    have HK := Lib.hid hk
    clear hk
    go_wp2
    go_ret
    exact ⟨rfl, HK.out⟩
  · have t0 : decide ((300 : Int) < (n : Int)) = false := by simp; omega
    have t1 : decide ((300 : Int) < (m : Int)) = true := by simp; omega
    clear h
    go_enter Try.func7, Try.ntmps7
    go_wp2_with fail
    refine A.out.mono ?_
    rintro e w1 ⟨rfl, hk⟩
    have HK := Lib.hid hk
    clear hk
    go_wp2
    go_ret
    exact ⟨rfl, HK.out⟩

set_option maxRecDepth 100000 in
set_option maxHeartbeats 1600000 in
theorem back_good (w : World) (a : Option Addr) (n c : Nat) (zs : List Int) (most : Int) (a2 : Option Addr) (m c2 : Nat) (ss : List Int) (hz : Ints w a n zs) (hm : -9223372036854775808 ≤ most ∧ most ≤ 9223372036854775807) (hs : Ints w a2 m ss) (h1 : n ≤ 300) (h2 : m ≤ 300) :
    Calls Try.prog 7 #[.slice a n c, .int .i64 most, .slice a2 m c2] w (Yes w) := by
  have A := Lib.hid (anchor_any w)
  have HZ := Lib.hid hz
  have HS := Lib.hid hs
  have t0 : decide ((300 : Int) < (n : Int)) = false := by simp; omega
  have t1 : decide ((300 : Int) < (m : Int)) = false := by simp; omega
  have hln := hz.1
  clear hz hs
  go_enter Try.func7, Try.ntmps7
  go_wp2_with fail
  refine A.out.mono ?_
  rintro e w1 ⟨rfl, hk⟩
  have K1 := Lib.hid hk
  have S1 := Lib.hid (HS.out.below hk)
  have CL := Lib.hid (lengths_says w1 a n c zs most (HZ.out.below hk) (by omega) hm.1 hm.2)
  clear hk A
  go_wp2_with fail
  refine CL.out.mono ?_
  rintro e w2 hls
  unfold LengthsSay at hls
  cases hg : good zs most
  · rw [hg, if_neg (by simp)] at hls
    obtain ⟨aa, cap, rfl, hk⟩ := hls
    have K2 := Lib.hid (below_join K1.out hk (Nat.le_refl _))
    clear hk hg CL
    go_wp2_with fail
    go_ret
    exact ⟨rfl, K2.out⟩
  · rw [hg, if_pos rfl] at hls
    obtain ⟨aa, cap, ls, rfl, hi, hcap, hbest, hk⟩ := hls
    have K2 := Lib.hid (below_join K1.out hk (Nat.le_refl _))
    have S2 := Lib.hid (S1.out.below hk)
    have hgp := (good_parts zs most).1 hg
    have hlz : ∀ z ∈ zs, 0 ≤ z := by
      have := hgp.2.1
      unfold listedS at this
      simp only [decide_eq_true_eq] at this
      exact fun z hz => (this.2 z hz).1
    have hmay : mayCode ls = true := by
      obtain ⟨q1, q2⟩ := best_lens hbest hlz (by omega) (by omega)
      unfold mayCode
      rw [q1, Bool.true_and, decide_eq_true_eq]
      exact q2
    have hll : ls.length = n := hi.1
    have CC := codes_says w2 aa n cap ls hi (by omega)
    unfold CodesSay at CC
    rw [hmay] at CC
    simp only [if_true] at CC
    have CC := Lib.hid CC
    have L2 := Lib.hid hi
    have HM := Lib.hid hmay
    clear hi hbest hk hgp hlz hmay hg CL HZ
    go_wp2_with fail
    refine CC.out.mono ?_
    rintro e w3 ⟨ac, cap2, rfl, hci, hcap2, hk⟩
    have K3 := Lib.hid (below_join K2.out hk (Nat.le_refl _))
    have S3 := Lib.hid (S2.out.below hk)
    have L3 := Lib.hid (L2.out.below hk)
    have C3 := Lib.hid hci
    have CN := Lib.hid (new_any w3 aa n cap ls (L2.out.below hk) (by omega))
    clear hci hk CC
    go_wp2_with fail
    refine CN.out.mono ?_
    rintro e w4 hns
    unfold NewSay at hns
    rw [HM.out, if_pos rfl] at hns
    obtain ⟨B, D, l, cc, rfl, T, hd, hk⟩ := hns
    have K4 := Lib.hid (below_join K3.out hk (Nat.le_refl _))
    have S4 := Lib.hid (S3.out.below hk)
    have L4 := Lib.hid (L3.out.below hk)
    have C4 := Lib.hid (C3.out.below hk)
    have AT0 := Lib.hid (all_of (by omega) T hd)
    clear T hd hk K1 K2 K3 S1 S2 S3 L2 L3 C3 CN
    go_wp2_with fail
    go_loopw [13, 59] (fun sv cnt wr => ∃ i : Nat, i ≤ m ∧ sv = .int .i64 0 ∧ cnt = .int .i64 i ∧ wr = w4) (fun _ cnt _ => m - (intOf cnt).toNat)
    case atStart => exact ⟨0, Nat.zero_le _, rfl, rfl, rfl⟩
    case round =>
      obtain ⟨i, hi, rfl, rfl, rfl⟩ := hrel
      by_cases hlt : i < m
      · obtain ⟨b1, o1, z, rfl, hz, hzb, hcz⟩ := S4.out.at hlt
        clear hz
        by_cases hz0 : z < 0
        · have u0 : decide (z < 0) = true := decide_eq_true hz0
          go_wp2_with fail
          go_roundw
          case rel => exact ⟨i + 1, hlt, rfl, by go_num, trivial⟩
          case measure => simp [intOf] <;> omega
        · have u0 : decide (z < 0) = false := decide_eq_false hz0
          by_cases hzn : (n : Int) ≤ z
          · have u1 : decide ((n : Int) ≤ z) = true := decide_eq_true hzn
            go_wp2_with fail
            go_roundw
            case rel => exact ⟨i + 1, hlt, rfl, by go_num, trivial⟩
            case measure => simp [intOf] <;> omega
          · obtain ⟨s, rfl⟩ := Int.eq_ofNat_of_zero_le (show 0 ≤ z by omega)
            have hsn : s < n := by omega
            have u1 : decide ((n : Int) ≤ (s : Int)) = false := decide_eq_false hzn
            obtain ⟨b2, o2, y, rfl, hy, hyb, hcy⟩ := L4.out.at hsn
            by_cases hy0 : y = 0
            · subst hy0
              clear hy
              go_wp2_with fail
              go_roundw
              case rel => exact ⟨i + 1, hlt, rfl, by go_num, trivial⟩
              case measure => simp [intOf] <;> omega
            · obtain ⟨L, C, way⟩ := way_of HM.out (by rw [hll]; exact hsn) (by rw [zs_getD hy]; exact hy0)
              have hyL := way.len
              rw [hy, Option.some.injEq] at hyL
              subst hyL
              obtain ⟨b3, o3, y2, rfl, hy2, _, hcc⟩ := C4.out.at hsn
              rw [way.code, Option.some.injEq] at hy2
              subst hy2
              have WAY := Lib.hid way
              have hL1 := way.pos
              have hL16 := way.le
              have hC16 : C < 65536 := by
                have := way.below
                have := Nat.pow_le_pow_right (show 0 < 2 by omega) way.le
                omega
              have v0 : decide ((L : Int) = 0) = false := decide_eq_false (by omega)
              have v1 : ((L : Int) == 0) = false := by simp; omega
              have eL : (L : Int) - 1 = ((L - 1 : Nat) : Int) := by omega
              clear hy way hy0
              go_wp2_with fail
              obtain ⟨wo, hwo⟩ : ∃ wo, wo = wr := ⟨_, rfl⟩
              rw [← hwo] at AT0 hcy hcc hcz ⊢
              have HWO := Lib.hid hwo
              clear hwo
              go_loopw [13, 16] (fun sv kv wr => ∃ (j st : Nat), j ≤ L ∧ sv = .int .i64 st ∧ kv = .int .i64 ((L : Int) - 1 - (j : Int)) ∧ ((j < L ∧ At wo D ls st j (C / 2 ^ (L - j))) ∨ (j = L ∧ st = 0)) ∧ wr = wo) (fun _ kv _ => (intOf kv + 1).toNat)
              case atStart =>
                refine ⟨0, 0, Nat.zero_le _, rfl, by congr 1; omega, Or.inl ⟨by omega, ?_⟩, rfl⟩
                rw [Nat.sub_zero, Nat.div_eq_of_lt WAY.out.below]
                exact AT0.out
              case round =>
                obtain ⟨j, st, hj, rfl, rfl, hmid, rfl⟩ := hrel
                rcases hmid with ⟨hjL, hat⟩ | ⟨rfl, rfl⟩
                · obtain ⟨k, hk⟩ : ∃ k : Nat, k = L - (j + 1) := ⟨_, rfl⟩
                  have ek : (L : Int) - 1 - (j : Int) = (k : Int) := by omega
                  have e3 : (L : Int) - 1 - ((j + 1 : Nat) : Int) = (k : Int) - 1 := by omega
                  obtain ⟨q, hq⟩ : ∃ q, q = C / 2 ^ k := ⟨_, rfl⟩
                  obtain ⟨b, hb⟩ : ∃ b, b = q % 2 := ⟨_, rfl⟩
                  have hqC : q ≤ C := by rw [hq]; exact Nat.div_le_self _ _
                  have hqi : (C : Int) / 2 ^ k = (q : Int) := by rw [hq]; simp
                  have hbit : bits .and .i64 (q : Int) 1 = (b : Int) := by rw [hb]; exact i64_odd q (by omega)
                  have hnb : C / 2 ^ (L - (j + 1)) = 2 * (C / 2 ^ (L - j)) + b := by
                    have := Trie.pre_next (L := L) (C := C) (j := j) (by omega)
                    simp only [Trie.pre] at this
                    rw [hb, hq, hk]
                    exact this
                  obtain ⟨r1, r2, hgo, hcs⟩ := step_at hat (b : Int) b (by omega) (by have := i64_odd b (by omega); rwa [show b % 2 = b by omega] at this)
                  have CS := Lib.hid hcs
                  have hk16 : k ≤ 15 := by omega
                  have bst := hat.bound.1
                  rw [ek]
                  by_cases hend : j + 1 = L
                  · have hk0 : k = 0 := by omega
                    have hr : r1 = 0 ∧ r2 = (s : Int) := by
                      have he := WAY.out.ended
                      have e4 : C = 2 * (C / 2 ^ (L - j)) + b := by
                        rw [← hnb, show L - (j + 1) = 0 by omega]; simp
                      rcases hgo with ⟨t, hf, hr⟩ | ⟨t, hf, hg, hr, h0, ha⟩ | ⟨hf, hg, hr⟩
                      · rw [hend, ← e4, he, Option.some.injEq] at hf
                        subst hf
                        rw [Prod.mk.injEq] at hr
                        exact hr
                      · rw [hend, ← e4, he] at hf
                        cases hf
                      · rw [hend, ← e4, he] at hf
                        cases hf
                    obtain ⟨rfl, rfl⟩ := hr
                    have x0 : decide ((0 : Int) < (k : Int)) = false := decide_eq_false (by omega)
                    have x1 : ((k : Int) == 0) = true := by simp; omega
                    have x2 : decide ((k : Int) = 0) = true := decide_eq_true (by omega)
                    have x3 : ¬ 0 < k := by omega
                    clear hgo hat hcs hnb hq hb hqC hk hk0
                    go_wp2_with fail
                    refine CS.out.mono ?_
                    rintro e w5 ⟨rfl, hw⟩
                    obtain rfl := hw.symm
                    go_wp2
                    go_roundw
                    case rel => exact ⟨L, 0, Nat.le_refl _, rfl, by congr 1; omega, Or.inr ⟨rfl, rfl⟩, trivial⟩
                    case measure => simp [intOf] <;> omega
                  · have hk0 : 0 < k := by omega
                    obtain ⟨t, hr, h0, ha⟩ : ∃ t : Nat, (r1, r2) = ((t : Int), -1) ∧ 0 < t ∧ At wr D ls t (j + 1) (C / 2 ^ (L - (j + 1))) := by
                      obtain ⟨m1, m2⟩ := WAY.out.amid (j + 1) (by omega) (by omega)
                      rcases hgo with ⟨t, hf, hr⟩ | ⟨t, hf, hg, hr, h0, ha⟩ | ⟨hf, hg, hr⟩
                      · rw [← hnb, m1] at hf
                        cases hf
                      · rw [← hnb] at ha
                        exact ⟨t, hr, h0, ha⟩
                      · rw [← hnb, m2] at hg
                        cases hg
                    cases hr
                    have X := Lib.hid ha
                    have t48 := ha.bound.1
                    have w0' : decide ((t : Int) ≤ 0) = false := decide_eq_false (by omega)
                    have w1' : ((k : Int) == 0) = false := by simp; omega
                    have w2' : decide ((k : Int) = 0) = false := decide_eq_false (by omega)
                    clear hgo hat hcs hnb hq hb hqC hk ha
                    go_wp2_with fail
                    refine CS.out.mono ?_
                    rintro e w5 ⟨rfl, hw⟩
                    obtain rfl := hw.symm
                    go_wp2
                    go_roundw
                    case rel => exact ⟨j + 1, t, hjL, rfl, by rw [e3], Or.inl ⟨by omega, X.out⟩, trivial⟩
                    case measure => simp [intOf] <;> omega
                · have ek : (j : Int) - 1 - (j : Int) = -1 := by omega
                  rw [ek]
                  go_wp2
                  go_roundw
                  case rel => exact ⟨i + 1, hlt, rfl, by go_num, HWO.out⟩
                  case measure => simp [intOf] <;> omega
      · obtain rfl : m = i := by omega
        go_wp2_with fail
        go_ret
        exact ⟨rfl, K4.out⟩
theorem back_law (w : World) (a : Option Addr) (n c : Nat) (zs : List Int) (most : Int) (a2 : Option Addr) (m c2 : Nat) (ss : List Int) (hz : Ints w a n zs) (hm : -9223372036854775808 ≤ most ∧ most ≤ 9223372036854775807) (hs : Ints w a2 m ss) : Calls Try.prog 7 #[.slice a n c, .int .i64 most, .slice a2 m c2] w (Yes w) := by
  by_cases h : 300 < n ∨ 300 < m
  · exact back_long w a n c most a2 m c2 h
  · exact back_good w a n c zs most a2 m c2 ss hz hm hs (by omega) (by omega)
end Go.Proofs.Ytoiknbbimgeihaa
