/- The walk of HuffWhole. -/
import Derived.Test.YtoiknbbimgeihaaYF
namespace Go.Proofs.Ytoiknbbimgeihaa
open Go.RowKit
set_option linter.unusedVariables false

theorem whole_has {zs : List Int} (hm : mayCode zs = true) (hw : Huff.rooms (nats zs) (Huff.ordered (nats zs) 16) = 65536) (x : Nat) (hx : x < 65536) :
    ∃ s, s < zs.length ∧ 1 ≤ (nats zs).getD s 0 ∧ (nats zs).getD s 0 ≤ 16 ∧ zs.getD s 0 = (((nats zs).getD s 0 : Nat) : Int) ∧ (codesZ zs).getD s 0 = ((x / 2 ^ (16 - (nats zs).getD s 0) : Nat) : Int) := by
  have hl : lensOk zs = true := by unfold mayCode at hm; rw [Bool.and_eq_true] at hm; exact hm.1
  obtain ⟨i, h1, h2, h3⟩ := code_whole (nats zs) (lens_le hl) hw x hx
  rw [nats_length] at h1
  have h4 := codesZ_at (zs := zs) h1
  rw [← h3] at h4
  exact ⟨i, h1, h2, (nats_at hl h1).2, (nats_at hl h1).1, h4⟩
/-- So many bits of sixteen, one more. -/
theorem next_bit {x j : Nat} (hj : j < 16) : x / 2 ^ (16 - (j + 1)) = 2 * (x / 2 ^ (16 - j)) + x / 2 ^ (15 - j) % 2 := by
  rw [show 16 - j = (15 - j) + 1 by omega, Nat.pow_succ, ← Nat.div_div_eq_div_mul, show 16 - (j + 1) = 15 - j by omega]
  omega
/-- Where no code ends and none goes on the lengths aren't whole. -/
theorem not_whole {zs : List Int} (hm : mayCode zs = true) {x j : Nat} (hx : x < 65536) (hj : j ≤ 16)
    (h0 : ∀ i, i ≤ j → 1 ≤ i → findS zs (codesZ zs) (i : Nat) ((x / 2 ^ (16 - i) : Nat) : Int) zs.length = none) (hg : beginsS zs (codesZ zs) (j : Nat) ((x / 2 ^ (16 - j) : Nat) : Int) zs.length = false) :
    ¬ (Huff.rooms (nats zs) (Huff.ordered (nats zs) 16) = 65536) := by
  intro hw
  obtain ⟨s, h1, h2, h3, h4, h5⟩ := whole_has hm hw x hx
  generalize (nats zs).getD s 0 = L at *
  rcases Nat.lt_or_ge j L with hlt | hge
  · have : beginsS zs (codesZ zs) (j : Nat) ((x / 2 ^ (16 - j) : Nat) : Int) zs.length = true := beginsS_has h1 (by rw [h4]; omega) (by
      rw [h4, h5, show ((L : Int) - ((j : Nat) : Int)).toNat = L - j by omega]
      have e : x / 2 ^ (16 - L) / 2 ^ (L - j) = x / 2 ^ (16 - j) := by
        rw [Nat.div_div_eq_div_mul, ← Nat.pow_add, show 16 - L + (L - j) = 16 - j by omega]
      have : (((x / 2 ^ (16 - L) / 2 ^ (L - j) : Nat)) : Int) = ((x / 2 ^ (16 - j) : Nat) : Int) := by rw [e]
      rw [← this]
      simp)
    rw [hg] at this
    cases this
  · obtain ⟨t, ht⟩ := findS_has (n := ((L : Nat) : Int)) (v := ((x / 2 ^ (16 - L) : Nat) : Int)) h1 h4 h5
    rw [h0 L hge h2] at ht
    cases ht
theorem At.deep {w : World} {D : Nat} {zs : List Int} {st n v : Nat} (h : At w D zs st n v) : n < 16 := by
  obtain ⟨B, val, ps, cs, l, c, h1, h2, h3, h4, h5, h6⟩ := h
  rcases Nat.eq_zero_or_pos st with e | e
  · subst e
    rw [h2.root, Option.some.injEq, Prod.mk.injEq] at h6
    omega
  · obtain ⟨s, j, q1, q2, q3, q4⟩ := h2.of_ st _ h6 e
    have e4 := congrArg Prod.fst q4
    simp only [Trie.pre] at e4
    rcases Nat.lt_or_ge s zs.length with hlt | hge
    · have := (h5.at' s hlt).2.1
      omega
    · have := h5.out s hge
      omega
/-- Within the loop. -/
def Wh (w : World) (D : Nat) (zs : List Int) (x j : Nat) (st : Int) (m : Bool) : Prop :=
  (m = false ∧ ∃ s : Nat, st = (s : Int) ∧ At w D zs s j (x / 2 ^ (16 - j)) ∧ ∀ i, i ≤ j → 1 ≤ i → findS zs (codesZ zs) (i : Nat) ((x / 2 ^ (16 - i) : Nat) : Int) zs.length = none) ∨ (m = true ∧ st = 0) ∨ (m = false ∧ st = -1 ∧ weightZ zs ≠ 65536)
theorem may_weight {zs : List Int} (hm : mayCode zs = true) : weightZ zs = Huff.rooms (nats zs) (Huff.ordered (nats zs) 16) := by
  have hl : lensOk zs = true := by unfold mayCode at hm; rw [Bool.and_eq_true] at hm; exact hm.1
  rw [← weightS_rooms _ (lens_le hl)]
  unfold weightZ
  rw [hl]
  rfl

set_option maxRecDepth 100000 in
set_option maxHeartbeats 1600000 in
theorem whole_long (w : World) (a : Option Addr) (n c : Nat) (x : Int) (h : 120 < n ∨ x < 0 ∨ 65535 < x) : Calls Try.prog 9 #[.slice a n c, .int .i64 x] w (Yes w) := by
  have A := Lib.hid (anchor_any w)
  by_cases h1 : 120 < n
  · have t0 : decide ((120 : Int) < (n : Int)) = true := by simp; omega
    clear h
    go_enter Try.func9, Try.ntmps9
    go_wp2_with fail
    refine A.out.mono ?_
    rintro e w1 ⟨rfl, hk⟩
    have HK := Lib.hid hk
    clear hk
    go_wp2
    go_ret
    exact ⟨rfl, HK.out⟩
  · have t0 : decide ((120 : Int) < (n : Int)) = false := by simp; omega
    by_cases h2 : x < 0
    · have t1 : decide (x < 0) = true := decide_eq_true h2
      clear h
      go_enter Try.func9, Try.ntmps9
      go_wp2_with fail
      refine A.out.mono ?_
      rintro e w1 ⟨rfl, hk⟩
      have HK := Lib.hid hk
      clear hk
      go_wp2
      go_ret
      exact ⟨rfl, HK.out⟩
    · have t1 : decide (x < 0) = false := decide_eq_false h2
      have t2 : decide (65535 < x) = true := decide_eq_true (by omega)
      clear h
      go_enter Try.func9, Try.ntmps9
      go_wp2_with fail
      refine A.out.mono ?_
      rintro e w1 ⟨rfl, hk⟩
      have HK := Lib.hid hk
      clear hk
      go_wp2
      go_ret
      exact ⟨rfl, HK.out⟩

set_option maxRecDepth 100000 in
set_option maxHeartbeats 1600000 in
theorem whole_good (w : World) (a : Option Addr) (n c : Nat) (zs : List Int) (x : Nat) (hz : Ints w a n zs) (h1 : n ≤ 120) (h2 : x ≤ 65535) : Calls Try.prog 9 #[.slice a n c, .int .i64 (x : Nat)] w (Yes w) := by
  have A := Lib.hid (anchor_any w)
  have HZ := Lib.hid hz
  have t0 : decide ((120 : Int) < (n : Int)) = false := by simp; omega
  have t1 : decide ((65535 : Int) < (x : Int)) = false := by simp; omega
  have t2 : decide ((x : Int) < 0) = false := by simp
  have hln := hz.1
  clear hz
  subst hln
  go_enter Try.func9, Try.ntmps9
  go_wp2_with fail
  refine A.out.mono ?_
  rintro e w1 ⟨rfl, hk⟩
  have K1 := Lib.hid hk
  have Z1 := Lib.hid (HZ.out.below hk)
  clear hk
  have CN := Lib.hid (new_any w1 a zs.length c zs Z1.out (by omega))
  clear A
  go_wp2_with fail
  refine CN.out.mono ?_
  rintro e w2 hns
  unfold NewSay at hns
  cases hmay : mayCode zs
  · rw [hmay, if_neg (by simp)] at hns
    obtain ⟨rfl, hk⟩ := hns
    have K2 := Lib.hid (below_join K1.out hk (Nat.le_refl _))
    have CW := Lib.hid (weight_says w2 a zs.length c zs (Z1.out.below hk) (by omega))
    have hwx : lensOk zs = true → 65536 < weightZ zs := by
      intro hl
      unfold mayCode at hmay
      rw [hl, Bool.true_and] at hmay
      simp only [decide_eq_false_iff_not] at hmay
      omega
    generalize weightZ zs = y at *
    generalize lensOk zs = ok at *
    have HX := Lib.hid hwx
    clear hk hmay hwx
    go_wp2_with fail
    refine CW.out.mono ?_
    rintro e w3 ⟨rfl, hk⟩
    have K3 := Lib.hid (below_join K2.out hk (Nat.le_refl _))
    clear hk
    cases ok
    · go_wp2_with fail
      go_ret
      exact ⟨rfl, K3.out⟩
    · have hy : decide ((65536 : Int) < (y : Int)) = true := by have := HX.out rfl; simp; omega
      go_wp2_with fail
      go_ret
      exact ⟨rfl, K3.out⟩
  · rw [hmay, if_pos rfl] at hns
    obtain ⟨B, D, l, cc, rfl, T, hd, hk⟩ := hns
    have hlen : zs.length ≤ 300 := by omega
    have hl : lensOk zs = true := by unfold mayCode at hmay; rw [Bool.and_eq_true] at hmay; exact hmay.1
    have K2 := Lib.hid (below_join K1.out hk (Nat.le_refl _))
    have CW := weight_says w2 a zs.length c zs (Z1.out.below hk) (by omega)
    rw [hl] at CW
    have CW := Lib.hid CW
    have AT0 := Lib.hid (all_of hlen T hd)
    have HM := Lib.hid hmay
    have hwz : weightZ zs ≤ 65536 := by unfold mayCode at hmay; rw [Bool.and_eq_true, decide_eq_true_eq] at hmay; exact hmay.2
    clear hk hmay T hd hl
    obtain ⟨y, hy⟩ : ∃ y, y = weightZ zs := ⟨_, rfl⟩
    have HY := Lib.hid hy
    rw [← hy] at hwz
    go_wp2_with fail
    refine CW.out.mono ?_
    rintro e w3 ⟨rfl, hk⟩
    rw [← hy]
    have K3 := Lib.hid (below_join K2.out hk (Nat.le_refl _))
    have AT1 := Lib.hid (AT0.out.later hk.block)
    clear hk hy CW CN AT0
    go_wp2_with fail
    go_loopw [9, 10, 11] (fun sv mv kv wr => ∃ (j : Nat) (st : Int) (m : Bool), j ≤ 16 ∧ sv = .int .i64 st ∧ mv = .bool m ∧ kv = .int .i64 (15 - (j : Int)) ∧ Wh w3 D zs x j st m ∧ wr = w3) (fun _ _ kv _ => (intOf kv + 1).toNat)
    case atStart =>
      refine ⟨0, 0, false, Nat.zero_le _, rfl, rfl, rfl, Or.inl ⟨rfl, 0, rfl, ?_, fun i hi1 hi2 => absurd hi2 (by omega)⟩, rfl⟩
      rw [show x / 2 ^ (16 - 0) = 0 from Nat.div_eq_of_lt (by omega)]
      exact AT1.out
    case round =>
      clear AT1
      obtain ⟨j, st, m, hj, rfl, rfl, rfl, hwh, rfl⟩ := hrel
      rcases hwh with ⟨rfl, s, rfl, hat, hnone⟩ | ⟨rfl, rfl⟩ | ⟨rfl, rfl, hne⟩
      · have hj16 := hat.deep
        obtain ⟨k, hk⟩ : ∃ k : Nat, k = 15 - j := ⟨_, rfl⟩
        have ek : 15 - (j : Int) = (k : Int) := by omega
        obtain ⟨q, hq⟩ : ∃ q, q = x / 2 ^ k := ⟨_, rfl⟩
        obtain ⟨b, hb⟩ : ∃ b, b = q % 2 := ⟨_, rfl⟩
        have hqx : q ≤ x := by rw [hq]; exact Nat.div_le_self _ _
        have hqi : (x : Int) / 2 ^ k = (q : Int) := by rw [hq]; simp
        have hbit : bits .and .i64 (q : Int) 1 = (b : Int) := by rw [hb]; exact i64_odd q (by omega)
        have hnb := next_bit (x := x) hj16
        rw [← hk, ← hq, ← hb] at hnb
        obtain ⟨r1, r2, hgo, hcs⟩ := step_at hat (b : Int) b (by omega) (by have := i64_odd b (by omega); rwa [show b % 2 = b by omega] at this)
        have CS := Lib.hid hcs
        have e3 : 15 - ((j + 1 : Nat) : Int) = (k : Int) - 1 := by omega
        have hk15 : k ≤ 15 := by omega
        have bst := hat.bound.1
        have HM2 := HM.out
        have HYO := HY.out
        rw [ek]
        rcases hgo with ⟨t, hf, hr⟩ | ⟨t, hf, hg, hr, h0, ha⟩ | ⟨hf, hg, hr⟩
        · cases hr
          clear hf hat hnone hnb hcs hq hb hqx hk HM2 HYO
          go_wp2_with fail
          refine CS.out.mono ?_
          rintro e w5 ⟨rfl, hw⟩
          obtain rfl := hw.symm
          go_wp2
          go_roundw
          case rel => exact ⟨j + 1, 0, true, by omega, rfl, rfl, by rw [e3], Or.inr (Or.inl ⟨rfl, rfl⟩), trivial⟩
          case measure => simp [intOf] <;> omega
        · cases hr
          rw [← hnb] at hf ha
          have X := Lib.hid (show Wh wr D zs x (j + 1) (t : Int) false from Or.inl ⟨rfl, t, rfl, ha, fun i hi1 hi2 => by
            rcases Nat.lt_or_ge i (j + 1) with h | h
            · exact hnone i (by omega) hi2
            · obtain rfl : i = j + 1 := (by omega)
              exact hf⟩)
          have t48 := ha.bound.1
          clear hf hg ha hat hnone hnb hcs hq hb hqx hk HM2 HYO
          go_wp2_with fail
          refine CS.out.mono ?_
          rintro e w5 ⟨rfl, hw⟩
          obtain rfl := hw.symm
          go_wp2
          go_roundw
          case rel => exact ⟨j + 1, t, false, by omega, rfl, rfl, by rw [e3], X.out, trivial⟩
          case measure => simp [intOf] <;> omega
        · cases hr
          rw [← hnb] at hf hg
          have hnw := not_whole HM2 (x := x) (j := j + 1) (by omega) (by omega) (fun i hi1 hi2 => by
            rcases Nat.lt_or_ge i (j + 1) with h | h
            · exact hnone i (by omega) hi2
            · obtain rfl : i = j + 1 := (by omega)
              exact hf) hg
          rw [← may_weight HM2] at hnw
          have X := Lib.hid (show Wh wr D zs x (j + 1) (-1) false from Or.inr (Or.inr ⟨rfl, rfl, hnw⟩))
          clear hf hg hat hnone hnb hcs hq hb hqx hk hnw HM2 HYO
          go_wp2_with fail
          refine CS.out.mono ?_
          rintro e w5 ⟨rfl, hw⟩
          obtain rfl := hw.symm
          go_wp2
          go_roundw
          case rel => exact ⟨j + 1, -1, false, by omega, rfl, rfl, by rw [e3], X.out, trivial⟩
          case measure => simp [intOf] <;> omega
      · go_wp2
        all_goals
          go_ret
          exact ⟨rfl, K3.out⟩
      · have hyn : y ≠ 65536 := by rw [HY.out]; exact hne
        have u1 : decide ((y : Int) = 65536) = false := decide_eq_false (by omega)
        have u2 : ((y : Int) == 65536) = false := by simp; omega
        have u3 : ((y : Int) != 65536) = true := by simp; omega
        have u4 : decide (¬ (y : Int) = 65536) = true := decide_eq_true (by omega)
        clear hne
        go_wp2
        all_goals first | (go_ret; exact ⟨rfl, K3.out⟩) | (exfalso; omega) | (exfalso; simp_all; done)
theorem whole_law (w : World) (a : Option Addr) (n c : Nat) (zs : List Int) (x : Int) (hz : Ints w a n zs) (hx : -9223372036854775808 ≤ x ∧ x ≤ 9223372036854775807) : Calls Try.prog 9 #[.slice a n c, .int .i64 x] w (Yes w) := by
  by_cases h : 120 < n ∨ x < 0 ∨ 65535 < x
  · exact whole_long w a n c x h
  · obtain ⟨y, rfl⟩ := Int.eq_ofNat_of_zero_le (show 0 ≤ x by omega)
    exact whole_good w a n c zs y hz (by omega) (by omega)
end Go.Proofs.Ytoiknbbimgeihaa
