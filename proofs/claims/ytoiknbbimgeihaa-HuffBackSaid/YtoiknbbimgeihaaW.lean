/- HuffApart whole, over what the program's functions are to say. -/
import Derived.Test.YtoiknbbimgeihaaV
namespace Go.Proofs.Ytoiknbbimgeihaa
open Go.RowKit
set_option linter.unusedVariables false

/-- What is so of one symbol. -/
theorem apart_one {zs : List Int} (hm : mayCode zs = true) (i : Nat) (hi : i < zs.length) :
    (0 ≤ zs.getD i 0 ∧ zs.getD i 0 ≤ 16) ∧ (zs.getD i 0 = 0 → (codesZ zs).getD i 0 = 0) ∧ (0 < zs.getD i 0 → 0 ≤ (codesZ zs).getD i 0 ∧ (codesZ zs).getD i 0 < 2 ^ (zs.getD i 0).toNat) := by
  have hl : lensOk zs = true := by unfold mayCode at hm; exact (Bool.and_eq_true_iff.1 hm).1
  obtain ⟨h1, h2⟩ := nats_at hl hi
  obtain ⟨h3, h4⟩ := may_rooms hm
  have hn : i < (nats zs).length := by rw [nats_length]; exact hi
  rw [codesZ_at hi, h1]
  refine ⟨by omega, fun h => ?_, fun h => ?_⟩
  · rw [code_none (nats zs) i (by omega)]; rfl
  · have h5 := code_below (nats zs) i hn (by omega) h2 h4
    exact ⟨by omega, by rw [Int.toNat_natCast]; exact_mod_cast h5⟩
/-- What is so of two. -/
theorem apart_two {zs : List Int} (hm : mayCode zs = true) (i j : Nat) (hi : i < zs.length) (hj : j < zs.length) (hne : i ≠ j) (h0 : 0 < zs.getD i 0) (hle : zs.getD i 0 ≤ zs.getD j 0) :
    (codesZ zs).getD j 0 / 2 ^ (zs.getD j 0 - zs.getD i 0).toNat ≠ (codesZ zs).getD i 0 := by
  have hl : lensOk zs = true := by unfold mayCode at hm; exact (Bool.and_eq_true_iff.1 hm).1
  obtain ⟨h1, h2⟩ := nats_at hl hi
  obtain ⟨g1, g2⟩ := nats_at hl hj
  have hn : i < (nats zs).length := by rw [nats_length]; exact hi
  have hn2 : j < (nats zs).length := by rw [nats_length]; exact hj
  rw [codesZ_at hi, codesZ_at hj, h1, g1]
  have h5 := code_apart (nats zs) i j hn hn2 (by omega) (by omega) g2 hne
  have e : (((nats zs).getD j 0 : Nat) : Int) - (((nats zs).getD i 0 : Nat) : Int) = (((nats zs).getD j 0 - (nats zs).getD i 0 : Nat) : Int) := by omega
  rw [e, Int.toNat_natCast]
  intro h
  exact h5 (by exact_mod_cast h)

set_option maxRecDepth 100000 in
set_option maxHeartbeats 2000000 in
theorem huffApart_any (HA : AnchorSays) (HC : CodesSays) (w : World) (a : Option Addr) (n c : Nat) (zs : List Int) (hz : Ints w a n zs) : Calls Try.prog 8 #[.slice a n c] w (Yes w) := by
  have A := Lib.hid (HA w)
  have HZ := Lib.hid hz
  have HC := Lib.hid HC
  have HLN := Lib.hid hz.1
  clear hz HA
  by_cases h : n ≤ 120
  · have t0 : decide ((120 : Int) < n) = false := by simp; omega
    go_enter Try.func8, Try.ntmps8
    go_wp2_with fail
    refine A.out.mono ?_
    rintro e w1 ⟨rfl, hk⟩
    have Z1 := Lib.hid (HZ.out.below hk)
    have K1 := Lib.hid hk
    have C1 := Lib.hid (HC.out w1 a n c zs Z1.out (by omega))
    clear hk
    go_wp2_with fail
    refine C1.out.mono ?_
    rintro e w2 ht
    unfold CodesSay at ht
    cases hmay : mayCode zs
    · rw [hmay] at ht
      simp only [Bool.false_eq_true, if_false] at ht
      obtain ⟨aa, cap, rfl, hk⟩ := ht
      have K2 := Lib.hid (below_more K1.out hk (Nat.le_refl _))
      clear hk hmay
      go_wp2
      go_ret
      exact ⟨rfl, K2.out⟩
    · rw [hmay] at ht
      simp only [if_true] at ht
      obtain ⟨aa, cap, rfl, hi2, hcap, hk⟩ := ht
      have K2 := Lib.hid (below_more K1.out hk (Nat.le_refl _))
      have Z2 := Lib.hid (Z1.out.below hk)
      have HI := Lib.hid hi2
      have P1 := Lib.hid (fun i hi => apart_one hmay i hi)
      have P2 := Lib.hid (fun i j hi hj hne h0 hle => apart_two hmay i j hi hj hne h0 hle)
      clear hk hi2 hmay
      go_wp2
      go_loopw [31] (fun cnt wr => ∃ i q : Nat, i ≤ n ∧ cnt = .int .i64 i ∧ wr = w2.drewN q) (fun cnt _ => n - (intOf cnt).toNat)
      case atStart => exact ⟨0, 0, Nat.zero_le _, rfl, rfl⟩
      case round =>
        obtain ⟨i, q, hi, rfl, rfl⟩ := hrel
        by_cases hlt : i < n
        · obtain ⟨b0, o0, z, rfl, hz, hzb, hcz⟩ := Z2.out.at hlt
          obtain ⟨b1, o1, x, rfl, hx, hxb, hcx⟩ := HI.out.at hlt
          have p1 := P1.out i (by rw [HLN.out]; exact hlt)
          rw [getD_of hz, getD_of hx] at p1
          obtain ⟨⟨pz1, pz2⟩, px0, px1⟩ := p1
          have PX := Lib.hid px1
          have PAIR := Lib.hid (fun j (hj : j < zs.length) hne h0 hle => P2.out i j (by rw [HLN.out]; exact hlt) hj hne (by rw [getD_of hz]; exact h0) (by rw [getD_of hz]; exact hle))
          rw [getD_of hz, getD_of hx] at PAIR
          clear hz hx px1
          by_cases c0 : z = 0
          · have x0 : x = 0 := px0 c0
            have d0 : (z == 0) = true := by simp [c0]
            have d1 : (x == 0) = true := by simp [x0]
            have d2 : decide (0 < z) = false := by simp; omega
            clear px0 PX
            go_wp2
            go_quiet (fail)
            go_wp2
            go_loopw [67] (fun cnt wr => ∃ j q : Nat, j ≤ n ∧ cnt = .int .i64 j ∧ wr = w2.drewN q) (fun cnt _ => n - (intOf cnt).toNat)
            case atStart => exact ⟨0, q + nq, Nat.zero_le _, rfl, by simp⟩
            case round =>
              obtain ⟨j, q2, hj, rfl, rfl⟩ := hrel
              by_cases hjn : j < n
              · obtain ⟨b2, o2, m, e2, hm, hmb, hcm⟩ := Z2.out.at hjn
                cases e2
                clear hm
                by_cases ce : i = j
                · subst ce
                  go_wp2
                  go_quiet (fail)
                  go_wp2
                  go_roundw
                  case rel => exact ⟨i + 1, q2 + nq, by omega, by go_num, by simp⟩
                  case measure => simp [intOf]; omega
                · have e0 : ((i : Int) == (j : Int)) = false := by simp; omega
                  have e1 : (i == j) = false := by simp; omega
                  have e2 : decide (i = j) = false := by simp; omega
                  have e3 : decide ((i : Int) = (j : Int)) = false := decide_eq_false (by omega)
                  have e4 : ((i : Int) != (j : Int)) = true := by simp; omega
                  have e5 : decide (¬ (i : Int) = (j : Int)) = true := decide_eq_true (by omega)
                  have e6 : ¬ (i : Int) = (j : Int) := by omega
                  have e7 : decide ((i : Int) ≠ (j : Int)) = true := decide_eq_true (by omega)
                  go_wp2
                  go_quiet (fail)
                  go_wp2
                  go_roundw
                  case rel => exact ⟨j + 1, q2 + nq, by omega, by go_num, by simp⟩
                  case measure => simp [intOf]; omega
              · obtain rfl : j = n := by omega
                go_wp2
                go_roundw
                case rel => exact ⟨i + 1, q2, by omega, by go_num, rfl⟩
                case measure => simp [intOf]; omega
          · have d0 : (z == 0) = false := by simp [c0]
            have d2 : decide (0 < z) = true := by simp; omega
            have hpx := PX.out (by omega)
            have hs1 : x < wrap64 (2 ^ z.toNat) := by
              rw [wrap_pow (by omega)]
              have := hpx.2
              exact_mod_cast this
            have hx0 := hpx.1
            have d3 : decide (wrap64 (2 ^ z.toNat) ≤ x) = false := by simp; omega
            have d4 : decide (x < 0) = false := by simp; omega
            clear px0 PX hpx
            go_wp2
            go_quiet (fail)
            go_wp2
            go_loopw [67] (fun cnt wr => ∃ j q : Nat, j ≤ n ∧ cnt = .int .i64 j ∧ wr = w2.drewN q) (fun cnt _ => n - (intOf cnt).toNat)
            case atStart => exact ⟨0, q + nq, Nat.zero_le _, rfl, by simp⟩
            case round =>
              obtain ⟨j, q2, hj, rfl, rfl⟩ := hrel
              by_cases hjn : j < n
              · obtain ⟨b2, o2, m, e2, hm, hmb, hcm⟩ := Z2.out.at hjn
                cases e2
                obtain ⟨b3, o3, y, e3, hy, hyb, hcy⟩ := HI.out.at hjn
                cases e3
                by_cases ce : i = j
                · subst ce
                  clear hm hy PAIR
                  go_wp2
                  go_quiet (fail)
                  go_wp2
                  go_roundw
                  case rel => exact ⟨i + 1, q2 + nq, by omega, by go_num, by simp⟩
                  case measure => simp [intOf]; omega
                · have e0 : ((i : Int) == (j : Int)) = false := by simp; omega
                  have e3 : decide ((i : Int) = (j : Int)) = false := decide_eq_false (by omega)
                  have e4 : ((i : Int) != (j : Int)) = true := by simp; omega
                  have e5 : decide (¬ (i : Int) = (j : Int)) = true := decide_eq_true (by omega)
                  by_cases cm : z ≤ m
                  · have hp := PAIR.out j (by rw [HLN.out]; exact hjn) ce (by omega) (by rw [getD_of hm]; exact cm)
                    rw [getD_of hm, getD_of hy] at hp
                    have f0 : decide (z ≤ m) = true := decide_eq_true cm
                    have f1 : ((y / 2 ^ (m - z).toNat) == x) = false := by simp; exact hp
                    have p2 := P1.out j (by rw [HLN.out]; exact hjn)
                    rw [getD_of hm, getD_of hy] at p2
                    have m16 := p2.1.2
                    have f2 : wrap64 (m - z) = m - z := wrap64_id _ ⟨by omega, by omega⟩
                    clear hm hy PAIR p2
                    go_wp2
                    go_quiet (fail)
                    go_wp2
                    go_roundw
                    case rel => exact ⟨j + 1, q2 + nq, by omega, by go_num, by simp⟩
                    case measure => simp [intOf]; omega
                  · have f0 : decide (z ≤ m) = false := decide_eq_false cm
                    clear hm hy PAIR
                    go_wp2
                    go_quiet (fail)
                    go_wp2
                    go_roundw
                    case rel => exact ⟨j + 1, q2 + nq, by omega, by go_num, by simp⟩
                    case measure => simp [intOf]; omega
              · obtain rfl : j = n := by omega
                go_wp2
                go_roundw
                case rel => exact ⟨i + 1, q2, by omega, by go_num, rfl⟩
                case measure => simp [intOf]; omega
        · obtain rfl : i = n := by omega
          have KD := Lib.hid (show Below w.heap.size w (w2.drewN q) from ⟨K2.out.os, K2.out.tape, K2.out.output, K2.out.size, K2.out.block⟩)
          go_wp2
          go_ret
          exact ⟨rfl, KD.out⟩
  · have t0 : decide ((120 : Int) < n) = true := by simp; omega
    go_enter Try.func8, Try.ntmps8
    go_wp2_with fail
    refine A.out.mono ?_
    rintro e w1 ⟨rfl, hk⟩
    have HK := Lib.hid hk
    clear hk
    go_wp2
    go_ret
    exact ⟨rfl, HK.out⟩
end Go.Proofs.Ytoiknbbimgeihaa
