/- The contracts of the document's Same, Big, Number, Record, and of the law's same. -/
import Derived.Test.YthddjfaeacmlhaaDoorJD
namespace Go.Proofs.YthddjfaeacmlhaaDoor
open Go.RowKit Jr
set_option linter.unusedVariables false

theorem same_take {α : Type} {xs ys : List α} {i : Nat} {x y : α} (hx : xs[i]? = some x) (hy : ys[i]? = some y) (h : xs.take i = ys.take i) : (x = y → xs.take (i + 1) = ys.take (i + 1)) ∧ (¬ x = y → ¬ xs = ys) := by
  refine ⟨fun e => ?_, fun e he => ?_⟩
  · rw [List.take_add_one, List.take_add_one, hx, hy, h, e]
  · subst he
    rw [hx] at hy
    exact e (Option.some.inj hy)
theorem ret_bool {a b : Bool} (h : a = b) : Ending.returned (.bool a) = .returned (.bool b) := by rw [h]
theorem below_drewN {B : Nat} {w w1 : World} (h : Below B w w1) (n : Nat) : Below B w (w1.drewN n) := ⟨h.os, h.tape, h.output, h.size, h.block⟩
set_option maxHeartbeats 800000 in
theorem same_any (w : World) (a : Option Addr) (n c : Nat) (xs : List Nat) (b : Option Addr) (m d : Nat) (ys : List Nat) (hx : Arg w a n c xs) (hy : Arg w b m d ys) (hn2 : n ≤ 33554432) (hm2 : m ≤ 33554432) :
    Calls Tryd.prog 13 #[.slice a n c, .slice b m d] w fun en w' => en = .returned (.bool (decide (xs = ys))) ∧ Below w.heap.size w w' := by
  have HN := Lib.hid (And.intro hx.len hy.len)
  have HX := Lib.hid (And.intro hx hy)
  clear hx hy
  by_cases hnm : n = m
  · subst hnm
    go_enter Tryd.func13, Tryd.ntmps13
    go_wp2_with fail
    go_loopw [5] (fun iv wl => ∃ i : Nat, i ≤ n ∧ iv = .int .i64 i ∧ xs.take i = ys.take i ∧ Below w.heap.size w wl) (fun iv _ => n - (intOf iv).toNat)
    case atStart => exact ⟨0, Nat.zero_le _, rfl, rfl, Below.refl _ _⟩
    case round =>
      obtain ⟨i, hi, rfl, he, hk⟩ := hrel
      have HE := Lib.hid he
      have HK := Lib.hid hk
      clear he hk
      by_cases hlt : i < n
      · obtain ⟨b0, o0, x, rfl, hx, _, hc0⟩ := (HX.out.1.below HK.out).1.at hlt
        obtain ⟨b1, o1, y, rfl, hy, _, hc1⟩ := (HX.out.2.below HK.out).1.at hlt
        have ST := Lib.hid (same_take hx hy HE.out)
        clear hx hy
        by_cases hxy : x = y
        · have S1 := Lib.hid (ST.out.1 hxy)
          clear ST
          subst hxy
          go_wp2_with fail
          go_quiet (fail)
          go_wp2_with fail
          go_roundw
          case rel => exact ⟨i + 1, hlt, by go_num, S1.out, below_drewN HK.out _⟩
          case measure => simp [intOf] <;> omega
        · have hne : ((x : Int) != (y : Int)) = true := by simp; omega
          have hne2 : ((x : Int) == (y : Int)) = false := by simp; omega
          have hne3 : decide ((x : Int) = (y : Int)) = false := by simp; omega
          go_wp2_with fail
          go_quiet (fail)
          go_wp2_with fail
          go_ret
          exact ⟨ret_bool (decide_eq_false (ST.out.2 hxy)).symm, below_drewN HK.out _⟩
      · obtain rfl : i = n := by omega
        go_wp2_with fail
        go_ret
        have h1 := HE.out
        rw [List.take_of_length_le (by rw [HN.out.1]; exact Nat.le_refl _), List.take_of_length_le (by rw [HN.out.2]; exact Nat.le_refl _)] at h1
        exact ⟨ret_bool (decide_eq_true h1).symm, HK.out⟩
  · have h1 : ((n : Int) != (m : Int)) = true := by simp; omega
    have h2 : ((n : Int) == (m : Int)) = false := by simp; omega
    have h3 : decide ((n : Int) = (m : Int)) = false := by simp; omega
    have h4 : xs ≠ ys := by intro e; subst e; have := HN.out; omega
    have H4 := Lib.hid h4
    clear h4
    go_enter Tryd.func13, Tryd.ntmps13
    go_wp2_with fail
    go_ret
    exact ⟨ret_bool (decide_eq_false H4.out).symm, Below.refl _ _⟩

set_option maxHeartbeats 1600000 in
theorem sameL_any (w : World) (P Q : Nat → Prop) (a : Option Addr) (n c : Nat) (ls : List (List Nat)) (b : Option Addr) (m d : Nat) (ms : List (List Nat)) (hx : Tx w P a n c ls) (hy : Tx w Q b m d ms) (hn2 : n ≤ 33554432) (hm2 : m ≤ 33554432)
    (hl : ∀ p ∈ ls, p.length ≤ 33554432) (hm : ∀ p ∈ ms, p.length ≤ 33554432) :
    Calls Tryd.prog 12 #[.slice a n c, .slice b m d] w fun en w' => en = .returned (.bool (decide (ls = ms))) ∧ Below w.heap.size w w' := by
  have HN := Lib.hid (And.intro hx.len hy.len)
  have HX := Lib.hid (And.intro hx hy)
  have HM := Lib.hid (And.intro hl hm)
  clear hx hy hl hm
  by_cases hnm : n = m
  · subst hnm
    go_enter Tryd.func12, Tryd.ntmps12
    go_wp2_with fail
    go_loopw [14] (fun iv wl => ∃ i : Nat, i ≤ n ∧ iv = .int .i64 i ∧ ls.take i = ms.take i ∧ Below w.heap.size w wl) (fun iv _ => n - (intOf iv).toNat)
    case atStart => exact ⟨0, Nat.zero_le _, rfl, rfl, Below.refl _ _⟩
    case round =>
      obtain ⟨i, hi, rfl, he, hk⟩ := hrel
      have HE := Lib.hid he
      have HK := Lib.hid hk
      clear he hk
      by_cases hlt : i < n
      · obtain ⟨b0, o0, x, a1, m1, c1, rfl, hx, hc0, hA1, _⟩ := (HX.out.1.below HK.out).at hlt
        obtain ⟨b1, o1, y, a2, m2, c2, rfl, hy, hc1, hA2, _⟩ := (HX.out.2.below HK.out).at hlt
        have ST := Lib.hid (same_take hx hy HE.out)
        have C := Lib.hid (same_any _ _ _ _ _ _ _ _ _ hA1 hA2 (by have := HM.out.1 x (List.mem_of_getElem? hx); rw [hA1.len] at this; exact this) (by have := HM.out.2 y (List.mem_of_getElem? hy); rw [hA2.len] at this; exact this))
        clear hx hy hA1 hA2
        by_cases hxy : x = y
        · have S1 := Lib.hid (ST.out.1 hxy)
          clear ST
          subst hxy
          rw [decide_eq_true rfl] at C
          go_wp2_with fail
          refine C.out.mono ?_
          rintro e w2 ⟨rfl, hb2⟩
          have HK2 := Lib.hid (below_more HK.out hb2 (Nat.le_refl _))
          clear hb2
          go_wp2_with fail
          go_roundw
          case rel => exact ⟨i + 1, hlt, by go_num, S1.out, HK2.out⟩
          case measure => simp [intOf] <;> omega
        · rw [decide_eq_false hxy] at C
          have H4 := Lib.hid (ST.out.2 hxy)
          clear hxy
          go_wp2_with fail
          refine C.out.mono ?_
          rintro e w2 ⟨rfl, hb2⟩
          have HK2 := Lib.hid (below_more HK.out hb2 (Nat.le_refl _))
          clear hb2
          go_wp2_with fail
          go_ret
          exact ⟨ret_bool (decide_eq_false H4.out).symm, HK2.out⟩
      · obtain rfl : i = n := by omega
        go_wp2_with fail
        go_ret
        have h1 := HE.out
        rw [List.take_of_length_le (by rw [HN.out.1]; exact Nat.le_refl _), List.take_of_length_le (by rw [HN.out.2]; exact Nat.le_refl _)] at h1
        exact ⟨ret_bool (decide_eq_true h1).symm, HK.out⟩
  · have h1 : ((n : Int) != (m : Int)) = true := by simp; omega
    have h2 : ((n : Int) == (m : Int)) = false := by simp; omega
    have h3 : decide ((n : Int) = (m : Int)) = false := by simp; omega
    have h4 : ls ≠ ms := by intro e; subst e; have := HN.out; omega
    have H4 := Lib.hid h4
    clear h4
    go_enter Tryd.func12, Tryd.ntmps12
    go_wp2_with fail
    go_ret
    exact ⟨ret_bool (decide_eq_false H4.out).symm, Below.refl _ _⟩

theorem num_meas {ys : List Nat} {i : Nat} (hb : Byte ys) (hi : i < 4) : numb (ys.take i) < 16777216 :=
  Nat.lt_of_lt_of_le (numb_lts hb i) (by
    have : (256 : Nat) ^ i ≤ 256 ^ 3 := Nat.pow_le_pow_right (by omega) (by omega)
    omega)
set_option maxHeartbeats 800000 in
theorem docNumber_any (w : World) (a : Option Addr) (n c : Nat) (ys : List Nat) (h : Arg w a n c ys) (h4 : n ≤ 4) :
    Calls Tryd.prog 27 #[.slice a n c] w fun e w' => e = .returned (.int .i64 (numb ys : Nat)) ∧ w' = w := by
  have HA := Lib.hid h
  clear h
  go_enter Tryd.func27, Tryd.ntmps27
  go_wp2
  go_loopw [3, 4] (fun r cnt wr => ∃ i : Nat, i ≤ n ∧ cnt = .int .i64 i ∧ r = .int .i64 (numb (ys.take i) : Nat) ∧ wr = w) (fun _ cnt _ => n - (intOf cnt).toNat)
  case atStart => exact ⟨0, Nat.zero_le _, rfl, rfl, rfl⟩
  case round =>
    obtain ⟨i, hi, rfl, rfl, rfl⟩ := hrel
    by_cases hlt : i < n
    · obtain ⟨b, off, y, rfl, hy, hy8, hcell⟩ := HA.out.1.at hlt
      have hl2 := num_meas HA.out.byte (show i < 4 by omega)
      have HN := Lib.hid (numb_take hy)
      generalize numb (ys.take i) = v at *
      generalize hv' : numb (ys.take (i + 1)) = v' at *
      have HV := Lib.hid hv'
      clear hv' hy
      go_wp2_with fail
      go_roundw
      case rel => exact ⟨i + 1, by omega, by go_num, by rw [HV.out, HN.out]; simp, trivial⟩
      case measure => simp [intOf]; omega
    · obtain rfl : i = n := by omega
      have e : ys.take i = ys := by rw [List.take_of_length_le (by rw [HA.out.len]; exact Nat.le_refl _)]
      rw [e]
      generalize hv : numb ys = v at *
      have HV := Lib.hid hv
      clear hv
      go_wp2
      go_ret
      exact ⟨by rw [HV.out]; rfl, rfl⟩
end Go.Proofs.YthddjfaeacmlhaaDoor
