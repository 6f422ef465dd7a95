/- The program's look over a list, and its Weight. -/
import Derived.Test.YtoiknbbimgeihaaJ
namespace Go.Proofs.Ytoiknbbimgeihaa
open Go.RowKit
set_option linter.unusedVariables false

def listedS (zs : List Int) (m : Int) : Bool := decide (zs.length ≤ 300 ∧ ∀ z ∈ zs, 0 ≤ z ∧ z ≤ m)
theorem listed_lens (zs : List Int) : listedS zs 16 = lensOk zs := rfl

set_option maxHeartbeats 800000 in
theorem listed_any (w : World) (a : Option Addr) (n c : Nat) (zs : List Int) (m : Int) (h : Ints w a n zs) (hn : n ≤ 16777216) :
    Calls Try.prog 22 #[.slice a n c, .int .i64 m] w fun e w' => e = .returned (.bool (listedS zs m)) ∧ w' = w := by
  have HZ := Lib.hid h
  clear h
  go_enter Try.func22, Try.ntmps22
  by_cases h3 : 300 < n
  · have hl : listedS zs m = false := by
      unfold listedS
      simp only [decide_eq_false_iff_not]
      have := HZ.out.1
      omega
    have u : decide ((300 : Int) < (n : Int)) = true := by simp; omega
    rw [hl]
    go_wp2
    go_ret
    exact ⟨rfl, rfl⟩
  · have u : decide ((300 : Int) < (n : Int)) = false := by simp; omega
    go_wp2
    go_loopw [12] (fun cnt wr => ∃ i : Nat, i ≤ n ∧ cnt = .int .i64 i ∧ (∀ z ∈ zs.take i, 0 ≤ z ∧ z ≤ m) ∧ wr = w) (fun cnt _ => n - (intOf cnt).toNat)
    case atStart => exact ⟨0, Nat.zero_le _, rfl, by intro z hz; simp at hz, rfl⟩
    case round =>
      obtain ⟨i, hi, rfl, hok, rfl⟩ := hrel
      by_cases hlt : i < n
      · obtain ⟨b, off, z, rfl, hz, hzb, hcell⟩ := HZ.out.at hlt
        have hmem : z ∈ zs := List.mem_of_getElem? hz
        by_cases hbad : 0 ≤ z ∧ z ≤ m
        · have HN := Lib.hid (take_more hz)
          have HOK := Lib.hid hok
          have HB := Lib.hid hbad
          have u1 : decide (z < 0) = false := by simp; omega
          have u2 : decide (m < z) = false := by simp; omega
          clear hok hz hmem hbad
          go_wp2_with fail
          go_roundw
          case rel =>
            refine ⟨i + 1, by omega, by go_num, ?_, trivial⟩
            intro z' hz
            rw [HN.out, List.mem_append, List.mem_singleton] at hz
            rcases hz with hz | rfl
            · exact HOK.out z' hz
            · exact HB.out
          case measure => simp [intOf]; omega
        · have hl : listedS zs m = false := by
            unfold listedS
            simp only [decide_eq_false_iff_not]
            intro hh
            exact hbad (hh.2 z hmem)
          have HL := Lib.hid hl
          clear hl hz hmem hok
          by_cases hz0 : z < 0
          · have u1 : decide (z < 0) = true := by simpa using hz0
            go_wp2_with fail
            go_ret
            exact ⟨by rw [HL.out]; rfl, rfl⟩
          · have u1 : decide (z < 0) = false := by simpa using hz0
            have u2 : decide (m < z) = true := by simp; omega
            clear hbad
            go_wp2_with fail
            go_ret
            exact ⟨by rw [HL.out]; rfl, rfl⟩
      · obtain rfl : i = n := by omega
        have e : zs.take i = zs := List.take_of_length_le (by rw [HZ.out.1]; exact Nat.le_refl _)
        rw [e] at hok
        have hl : listedS zs m = true := by
          unfold listedS
          simp only [decide_eq_true_eq]
          exact ⟨by rw [HZ.out.1]; omega, hok⟩
        have HL := Lib.hid hl
        clear hl hok
        go_wp2
        go_ret
        exact ⟨by rw [HL.out]; rfl, rfl⟩

set_option maxHeartbeats 800000 in
theorem weight_says : WeightSays := by
  intro w a n c zs h hn
  have HZ := Lib.hid h
  have CL := listed_any w a n c zs 16 h hn
  rw [listed_lens] at CL
  have HD := Lib.hid (Below.refl w.heap.size w)
  clear h
  cases hl : lensOk zs
  · rw [hl] at CL
    have hw : weightZ zs = 0 := by unfold weightZ; rw [hl]; rfl
    rw [hw]
    go_enter Try.func15, Try.ntmps15
    go_wp2_with (go_at_call 22; refine CL.mono ?_; rintro e w' ⟨rfl, hw⟩; obtain rfl := hw.symm)
    go_ret2
    exact ⟨rfl, HD.out⟩
  · rw [hl] at CL
    have hw : weightZ zs = weightS (nats zs) := by unfold weightZ; rw [hl]; rfl
    rw [hw]
    have HL := Lib.hid hl
    have hlen : n ≤ 300 := by
      have := HZ.out.1
      unfold lensOk at hl
      simp only [decide_eq_true_eq] at hl
      omega
    clear hl hw
    go_enter Try.func15, Try.ntmps15
    go_wp2_with (go_at_call 22; refine CL.mono ?_; rintro e w' ⟨rfl, hw⟩; obtain rfl := hw.symm)
    clear CL
    go_loopw [4, 12] (fun s cnt wr => ∃ i : Nat, i ≤ n ∧ cnt = .int .i64 i ∧ s = .int .i64 (weightS (nats (zs.take i)) : Nat) ∧ wr = w) (fun _ cnt _ => n - (intOf cnt).toNat)
    case atStart => exact ⟨0, Nat.zero_le _, rfl, rfl, rfl⟩
    case round =>
      obtain ⟨i, hi, rfl, rfl, rfl⟩ := hrel
      by_cases hlt : i < n
      · obtain ⟨b, off, z, rfl, hz, hzb, hcell⟩ := HZ.out.at hlt
        have hmem : z ∈ zs := List.mem_of_getElem? hz
        have hbad : 0 ≤ z ∧ z ≤ 16 := by
          have hh := HL.out
          unfold lensOk at hh
          simp only [decide_eq_true_eq] at hh
          exact hh.2 z hmem
        have HN := Lib.hid (take_more hz)
        have hsl := weightS_le (nats (zs.take i))
        have hll : (nats (zs.take i)).length ≤ 300 := by simp [nats]; omega
        by_cases hm : z = 0
        · subst hm
          clear hz hbad hmem hzb
          generalize hS : weightS (nats (zs.take i)) = s at *
          have HS := Lib.hid hS
          clear hS
          go_wp2_with fail
          go_roundw
          case rel =>
            exact ⟨i + 1, by omega, by go_num, by rw [HN.out, nats_snoc, weightS_snoc, HS.out]; simp [wt], trivial⟩
          case measure => simp [intOf]; omega
        · obtain ⟨m, rfl⟩ := Int.eq_ofNat_of_zero_le hbad.1
          have hm16 : m ≤ 16 := by omega
          have hm0 : ¬ m = 0 := by omega
          clear hz hbad hmem
          have u3 : decide ((m : Int) = 0) = false := by simp; omega
          have u4 : ((m : Int) == 0) = false := by simp; omega
          have u5 : ((m : Int) != 0) = true := by simp; omega
          have u6 : decide ((m : Int) < 0) = false := by simp
          have u7 : decide (¬ (m : Int) = 0) = true := by simp; omega
          have hsh := shr_wt m (by omega) hm16
          have hwl := wt_le m
          generalize hS : weightS (nats (zs.take i)) = s at *
          generalize hW : wt m = x at *
          have HS := Lib.hid (And.intro hS hW)
          clear hS hW
          go_wp2_with fail
          go_roundw
          case rel =>
            refine ⟨i + 1, by omega, by go_num, by rw [HN.out, nats_snoc, weightS_snoc, HS.out.1, Int.toNat_natCast, HS.out.2]; simp, trivial⟩
          case measure => simp [intOf]; omega
      · obtain rfl : i = n := by omega
        have e : zs.take i = zs := List.take_of_length_le (by rw [HZ.out.1]; exact Nat.le_refl _)
        rw [e]
        generalize hS : weightS (nats zs) = s at *
        have HS := Lib.hid hS
        clear hS
        go_wp2
        go_ret2
        exact ⟨by rw [HS.out]; rfl, HD.out⟩
end Go.Proofs.Ytoiknbbimgeihaa
