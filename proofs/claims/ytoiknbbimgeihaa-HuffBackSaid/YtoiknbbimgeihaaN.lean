/- The walk of HuffOrder over what the program's functions are to say. -/
import Derived.Test.YtoiknbbimgeihaaM
namespace Go.Proofs.Ytoiknbbimgeihaa
open Go.RowKit
set_option linter.unusedVariables false

theorem getD_of {zs : List Int} {i : Nat} {z : Int} (h : zs[i]? = some z) : zs.getD i 0 = z := by rw [List.getD_eq_getElem?_getD, h]; rfl
/-- How many counts so far are above 0. -/
def above (zs : List Int) (k : Nat) : Nat := ((List.range k).filter (fun i => decide (0 < zs.getD i 0))).length
theorem above_succ (zs : List Int) (k : Nat) : above zs (k + 1) = above zs k + (if 0 < zs.getD k 0 then 1 else 0) := by
  unfold above
  rw [List.range_succ, List.filter_append, List.length_append]
  congr 1
  by_cases h : 0 < zs.getD k 0
  · rw [if_pos h, List.filter_cons_of_pos (by simpa using h)]; rfl
  · rw [if_neg h, List.filter_cons_of_neg (by simpa using h)]; rfl
theorem above_all (zs : List Int) : above zs zs.length = (posI zs).length := rfl
theorem above_le (zs : List Int) (k : Nat) : above zs k ≤ k := by
  unfold above
  exact Nat.le_trans (List.length_filter_le _ _) (by simp)

set_option maxRecDepth 100000 in
set_option maxHeartbeats 1600000 in
theorem huffOrder_long (HA : AnchorSays) (w : World) (a : Option Addr) (n c : Nat) (most : Int) (h : 300 < n) : Calls Try.prog 4 #[.slice a n c, .int .i64 most] w (Yes w) := by
  have A := Lib.hid (HA w)
  have t0 : decide ((300 : Int) < n) = true := by simp; omega
  go_enter Try.func4, Try.ntmps4
  go_wp2_with fail
  refine A.out.mono ?_
  rintro e w1 ⟨rfl, hk⟩
  have HK := Lib.hid hk
  clear hk
  go_wp2
  go_ret
  exact ⟨rfl, HK.out⟩

set_option maxRecDepth 100000 in
set_option maxHeartbeats 1600000 in
theorem huffOrder_good (HA : AnchorSays) (HL : LengthsSays) (HW : WeightSays) (w : World) (a : Option Addr) (n c : Nat) (zs : List Int) (most : Int) (hm0 : -9223372036854775808 ≤ most ∧ most ≤ 9223372036854775807) (h : n ≤ 300) (hz : Ints w a n zs) : Calls Try.prog 4 #[.slice a n c, .int .i64 most] w (Yes w) := by
  have A := Lib.hid (HA w)
  have HZ := Lib.hid hz
  have HL := Lib.hid HL
  have HW := Lib.hid HW
  have t0 : decide ((300 : Int) < n) = false := by simp; omega
  clear hz HA
  go_enter Try.func4, Try.ntmps4
  go_wp2_with fail
  refine A.out.mono ?_
  rintro e w1 ⟨rfl, hk⟩
  have Z1 := Lib.hid (HZ.out.below hk)
  have K1 := Lib.hid hk
  have C1 := Lib.hid (HL.out w1 a n c zs most Z1.out (by omega) hm0.1 hm0.2)
  clear hk hm0
  go_wp2_with fail
  refine C1.out.mono ?_
  rintro e w2 ht
  unfold LengthsSay at ht
  cases hg : good zs most
  · rw [hg] at ht
    simp only [Bool.false_eq_true, if_false] at ht
    obtain ⟨aa, cap, rfl, hk⟩ := ht
    have K2 := Lib.hid (below_more K1.out hk (Nat.le_refl _))
    clear hk hg
    go_wp2
    go_ret
    exact ⟨rfl, K2.out⟩
  · rw [hg] at ht
    simp only [if_true] at ht
    obtain ⟨aa, cap, ls, rfl, hi, hcap, hbest, hk⟩ := ht
    unfold good at hg
    simp only [decide_eq_true_eq] at hg
    obtain ⟨g1, g2, g3, g4, g5⟩ := hg
    have K2 := Lib.hid (below_more K1.out hk (Nat.le_refl _))
    have Z2 := Lib.hid (Z1.out.below hk)
    have HI := Lib.hid hi
    have HB := Lib.hid hbest
    have HZ0 := Lib.hid (show ∀ z ∈ zs, 0 ≤ z from fun z hz => (g4 z hz).1)
    have HLEN := Lib.hid HZ.out.1
    have HPAIR := Lib.hid (fun i j (hi : i < zs.length) (hj : j < zs.length) h1 h2 => best_pair (i := i) (j := j) hbest hi hj h1 h2)
    have hlens := best_lens hbest HZ0.out (by omega) (by omega)
    have hfull := fun h2 => best_full hbest HZ0.out (by omega) (by omega) h2
    clear hk hi hbest g4 g5
    go_wp2_with fail
    go_loopw [7, 32] (fun nv cnt wr => ∃ i q : Nat, i ≤ n ∧ cnt = .int .i64 i ∧ nv = .int .i64 (above zs i : Nat) ∧ wr = w2.drewN q) (fun _ cnt _ => n - (intOf cnt).toNat)
    case atStart => exact ⟨0, 0, Nat.zero_le _, rfl, rfl, rfl⟩
    case round =>
      obtain ⟨i, q, hi, rfl, rfl, rfl⟩ := hrel
      by_cases hlt : i < n
      · obtain ⟨b0, o0, z, rfl, hz, hzb, hcz⟩ := Z2.out.at hlt
        obtain ⟨b1, o1, li, rfl, hli, _, hcl⟩ := HI.out.at hlt
        have hab := above_succ zs i
        rw [getD_of hz] at hab
        have hal := above_le zs i
        have HZI := Lib.hid (And.intro (getD_of hz) (getD_of hli))
        obtain ⟨k, hk⟩ : ∃ k, k = above zs i := ⟨_, rfl⟩
        rw [← hk] at hab hal ⊢
        obtain ⟨k', hk'⟩ : ∃ k', k' = above zs (i + 1) := ⟨_, rfl⟩
        rw [← hk'] at hab
        have HK' := Lib.hid hk'
        clear hk hk' hz hli
        by_cases hp : 0 < z
        · rw [if_pos hp] at hab
          have v1 : decide (0 < z) = true := by simpa using hp
          have HAB := Lib.hid hab
          clear hab
          go_wp2
          go_loopw [43] (fun cnt wr => ∃ j q : Nat, j ≤ n ∧ cnt = .int .i64 j ∧ wr = w2.drewN q) (fun cnt _ => n - (intOf cnt).toNat)
          case atStart => exact ⟨0, q, Nat.zero_le _, rfl, rfl⟩
          case round =>
            obtain ⟨j, q2, hj, rfl, rfl⟩ := hrel
            by_cases hjn : j < n
            · obtain ⟨b2, o2, y, e2, hy, _, hcy⟩ := Z2.out.at hjn
              cases e2
              obtain ⟨b3, o3, lj, e3, hlj, _, hclj⟩ := HI.out.at hjn
              cases e3
              have HYJ := Lib.hid (And.intro (getD_of hy) (getD_of hlj))
              clear hy hlj
              by_cases c1 : y < z
              · have d1 : decide (y < z) = true := by simpa using c1
                by_cases c2 : 0 < y
                · have d2 : decide (0 < y) = true := by simpa using c2
                  have hle : li ≤ lj := by
                    have k := HPAIR.out i j (by rw [HLEN.out]; exact hlt) (by rw [HLEN.out]; exact hjn) (by rw [HZI.out.1, HYJ.out.1]; exact c1) (by rw [HYJ.out.1]; exact c2)
                    rw [HZI.out.2, HYJ.out.2] at k
                    exact k
                  have d3 : decide (lj < li) = false := by simp; omega
                  go_wp2
                  go_quiet (fail)
                  go_wp2
                  go_roundw
                  case rel => exact ⟨j + 1, q2 + nq, by omega, by go_num, by simp⟩
                  case measure => simp [intOf]; omega
                · have d2 : decide (0 < y) = false := by simpa using c2
                  go_wp2
                  go_quiet (fail)
                  go_wp2
                  go_roundw
                  case rel => exact ⟨j + 1, q2 + nq, by omega, by go_num, by simp⟩
                  case measure => simp [intOf]; omega
              · have d1 : decide (y < z) = false := by simpa using c1
                go_wp2
                go_quiet (fail)
                go_wp2
                go_roundw
                case rel => exact ⟨j + 1, q2 + nq, by omega, by go_num, by simp⟩
                case measure => simp [intOf]; omega
            · go_wp2
              go_roundw
              case rel => exact ⟨i + 1, q2, by omega, by go_num, by rw [← HK'.out, HAB.out]; simp, rfl⟩
              case measure => simp [intOf]; omega
        · rw [if_neg hp] at hab
          have v1 : decide (0 < z) = false := by simpa using hp
          have HAB := Lib.hid hab
          clear hab
          go_wp2
          go_loopw [43] (fun cnt wr => ∃ j q : Nat, j ≤ n ∧ cnt = .int .i64 j ∧ wr = w2.drewN q) (fun cnt _ => n - (intOf cnt).toNat)
          case atStart => exact ⟨0, q, Nat.zero_le _, rfl, rfl⟩
          case round =>
            obtain ⟨j, q2, hj, rfl, rfl⟩ := hrel
            by_cases hjn : j < n
            · obtain ⟨b2, o2, y, e2, hy, _, hcy⟩ := Z2.out.at hjn
              cases e2
              obtain ⟨b3, o3, lj, e3, hlj, _, hclj⟩ := HI.out.at hjn
              cases e3
              have HYJ := Lib.hid (And.intro (getD_of hy) (getD_of hlj))
              clear hy hlj
              by_cases c1 : y < z
              · have d1 : decide (y < z) = true := by simpa using c1
                by_cases c2 : 0 < y
                · have d2 : decide (0 < y) = true := by simpa using c2
                  have hle : li ≤ lj := by
                    have k := HPAIR.out i j (by rw [HLEN.out]; exact hlt) (by rw [HLEN.out]; exact hjn) (by rw [HZI.out.1, HYJ.out.1]; exact c1) (by rw [HYJ.out.1]; exact c2)
                    rw [HZI.out.2, HYJ.out.2] at k
                    exact k
                  have d3 : decide (lj < li) = false := by simp; omega
                  go_wp2
                  go_quiet (fail)
                  go_wp2
                  go_roundw
                  case rel => exact ⟨j + 1, q2 + nq, by omega, by go_num, by simp⟩
                  case measure => simp [intOf]; omega
                · have d2 : decide (0 < y) = false := by simpa using c2
                  go_wp2
                  go_quiet (fail)
                  go_wp2
                  go_roundw
                  case rel => exact ⟨j + 1, q2 + nq, by omega, by go_num, by simp⟩
                  case measure => simp [intOf]; omega
              · have d1 : decide (y < z) = false := by simpa using c1
                go_wp2
                go_quiet (fail)
                go_wp2
                go_roundw
                case rel => exact ⟨j + 1, q2 + nq, by omega, by go_num, by simp⟩
                case measure => simp [intOf]; omega
            · go_wp2
              go_roundw
              case rel => exact ⟨i + 1, q2, by omega, by go_num, by rw [← HK'.out, HAB.out]; simp, rfl⟩
              case measure => simp [intOf]; omega
      · obtain rfl : i = n := by omega
        have hall : above zs i = (posI zs).length := by rw [← HLEN.out]; exact above_all zs
        rw [hall]
        have C2 := HW.out (w2.drewN q) aa i cap ls (HI.out.later (fun _ _ => rfl)) (by omega)
        generalize hx : weightZ ls = x at *
        generalize hk : (posI zs).length = k at *
        have HX := Lib.hid (And.intro hx hk)
        have C2 := Lib.hid C2
        have FIN := Lib.hid (fun (w3 : World) (hb : Below (w2.drewN q).heap.size (w2.drewN q) w3) => show Below w.heap.size w w3 from below_more (w1 := w2.drewN q) ⟨K2.out.os, K2.out.tape, K2.out.output, K2.out.size, K2.out.block⟩ hb (Nat.le_refl _))
        clear hx hk hall
        go_wp2_with fail
        refine C2.out.mono ?_
        rintro e w3 ⟨rfl, hb⟩
        have X := Lib.hid (FIN.out w3 hb)
        clear hb
        by_cases h2 : k < 2
        · have v1 : decide ((k : Int) < 2) = true := by simp; omega
          go_wp2
          go_ret
          exact ⟨rfl, X.out⟩
        · have v1 : decide ((k : Int) < 2) = false := by simp; omega
          have hx2 : x = 65536 := hfull (by omega)
          subst hx2
          go_wp2
          go_ret
          exact ⟨rfl, X.out⟩
end Go.Proofs.Ytoiknbbimgeihaa
