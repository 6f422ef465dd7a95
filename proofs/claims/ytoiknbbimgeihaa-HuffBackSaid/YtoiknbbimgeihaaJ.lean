/- What the program's own functions are to say, as hypotheses; the walk of HuffCodes over them. -/
import Derived.Test.YtoiknbbimgeihaaI
namespace Go.Proofs.Ytoiknbbimgeihaa
open Go.RowKit
set_option linter.unusedVariables false

/-- A law's end. -/
def Yes (w : World) (e : Ending) (w' : World) : Prop := e = .returned (.bool true) ∧ Below w.heap.size w w'
theorem below_more {B : Nat} {w w1 w2 : World} (h : Below B w w1) (h2 : Below w1.heap.size w1 w2) (hB : B ≤ w.heap.size) : Below B w w2 :=
  h.trans ⟨h2.os, h2.tape, h2.output, h2.size, fun k hk => h2.block k (Nat.lt_of_lt_of_le hk (Nat.le_trans hB h.size))⟩
/-- The codes as whole numbers. -/
def codesZ (zs : List Int) : List Int := (codesOf (nats zs)).map (fun v : Nat => (v : Int))
/-- Codes are told where they should. -/
def CodesSay (w : World) (n : Nat) (zs : List Int) (e : Ending) (w' : World) : Prop :=
  if mayCode zs = true then ∃ aa cap, e = .returned (.tuple #[.slice aa n cap, .bool true]) ∧ Ints w' aa n (codesZ zs) ∧ n ≤ cap ∧ Below w.heap.size w w'
  else ∃ aa cap, e = .returned (.tuple #[.slice aa 0 cap, .bool false]) ∧ Below w.heap.size w w'
def AnchorSays : Prop := ∀ w, Calls Try.prog 10 #[] w (Yes w)
def WeightSays : Prop := ∀ w a n c zs, Ints w a n zs → n ≤ 16777216 → Calls Try.prog 15 #[.slice a n c] w fun e w' => e = .returned (.tuple #[.int .i64 (weightZ zs : Nat), .bool (lensOk zs)]) ∧ Below w.heap.size w w'
def CodesSays : Prop := ∀ w a n c zs, Ints w a n zs → n ≤ 16777216 → Calls Try.prog 16 #[.slice a n c] w (CodesSay w n zs)

theorem codesZ_length (zs : List Int) : (codesZ zs).length = zs.length := by simp [codesZ, codesOf_length, nats_length]
theorem codesOf_le (l : List Nat) (j : Nat) (hl : ∀ s, l.getD s 0 ≤ 16) (hw : Huff.rooms l (Huff.ordered l 16) ≤ 65536) : outOf l (Huff.ordered l 16) j ≤ 65536 := by
  unfold outOf
  split
  · rename_i x hx
    have hm := List.mem_of_find?_eq_some hx
    have := Huff.all_within l x hm
    have h2 := Nat.div_le_self x.2 (Huff.room l x.1)
    omega
  · omega
theorem may_rooms {zs : List Int} (h : mayCode zs = true) : (∀ s, (nats zs).getD s 0 ≤ 16) ∧ Huff.rooms (nats zs) (Huff.ordered (nats zs) 16) ≤ 65536 := by
  unfold mayCode at h
  simp only [Bool.and_eq_true, decide_eq_true_eq] at h
  obtain ⟨hl, hw⟩ := h
  refine ⟨lens_le hl, ?_⟩
  rw [← weightS_rooms _ (lens_le hl)]
  unfold weightZ at hw
  rw [hl] at hw
  exact hw
theorem told_ints {w w' : World} {n : Nat} {zs : List Int} {e : Ending} (h : CodesTold w n (nats zs) e w') (hm : mayCode zs = true) (hn : zs.length = n) : ∃ g, e = .returned (.tuple #[.slice (some ⟨g, 0, none⟩) n n, .bool true]) ∧ Ints w' (some ⟨g, 0, none⟩) n (codesZ zs) ∧ Below w.heap.size w w' := by
  obtain ⟨g, he, hg, hr, hb⟩ := h
  obtain ⟨h1, h2⟩ := may_rooms hm
  refine ⟨g, he, hr.ints (by rw [codesZ_length]; exact hn) ?_ ?_, hb⟩
  · intro z hz
    unfold codesZ codesOf at hz
    simp only [List.map_map, List.mem_map] at hz
    obtain ⟨j, _, rfl⟩ := hz
    have := codesOf_le (nats zs) j h1 h2
    simp only [Function.comp]
    omega
  · intro j hj
    have hjl : j < (codesOf (nats zs)).length := by rw [codesOf_length, nats_length]; omega
    unfold codesZ
    rw [List.getElem?_map, List.getD_eq_getElem?_getD, List.getElem?_eq_getElem hjl]
    rfl

set_option maxRecDepth 100000 in
set_option maxHeartbeats 1600000 in
theorem huffCodes_long (HA : AnchorSays) (w : World) (a : Option Addr) (n c : Nat) (h : 1000 < n) : Calls Try.prog 5 #[.slice a n c] w (Yes w) := by
  have A := Lib.hid (HA w)
  have t0 : decide ((1000 : Int) < n) = true := by simp; omega
  go_enter Try.func5, Try.ntmps5
  go_wp2_with fail
  refine A.out.mono ?_
  rintro e w1 ⟨rfl, hk⟩
  have HK := Lib.hid hk
  clear hk
  go_wp2
  go_ret
  exact ⟨rfl, HK.out⟩

set_option maxRecDepth 100000 in
set_option maxHeartbeats 1600000 in
theorem huffCodes_good (HA : AnchorSays) (HW : WeightSays) (HC : CodesSays) (w : World) (a : Option Addr) (n c : Nat) (zs : List Int) (h : n ≤ 1000) (hz : Ints w a n zs) : Calls Try.prog 5 #[.slice a n c] w (Yes w) := by
  have A := Lib.hid (HA w)
  have HZ := Lib.hid hz
  have HW := Lib.hid HW
  have HC := Lib.hid HC
  have t0 : decide ((1000 : Int) < n) = false := by simp; omega
  clear hz HA
  go_enter Try.func5, Try.ntmps5
  go_wp2_with fail
  refine A.out.mono ?_
  rintro e w1 ⟨rfl, hk⟩
  have Z1 := Lib.hid (HZ.out.below hk)
  have K1 := Lib.hid hk
  have C1 := HW.out w1 a n c zs Z1.out (by omega)
  have hxb : weightZ zs ≤ 65536 * 300 := by
    unfold weightZ
    split
    · rename_i hl
      have h1 := weightS_le (nats zs)
      rw [nats_length] at h1
      unfold lensOk at hl
      simp only [decide_eq_true_eq] at hl
      omega
    · omega
  generalize hx : weightZ zs = x at *
  generalize hy : lensOk zs = y at *
  have HXY := Lib.hid (And.intro hx hy)
  have C1 := Lib.hid C1
  clear hk hx hy
  go_wp2_with fail
  refine C1.out.mono ?_
  rintro e w2 ⟨rfl, hk⟩
  have K2 := Lib.hid (below_more K1.out hk (Nat.le_refl _))
  have Z2 := Lib.hid (Z1.out.below hk)
  have C2 := docWeight_any w2 a n c zs Z2.out (by omega)
  rw [HXY.out.1, HXY.out.2] at C2
  have C2 := Lib.hid C2
  clear hk
  go_wp2_with fail
  refine C2.out.mono ?_
  rintro e w3 ⟨rfl, rfl⟩
  have C3 := Lib.hid (HC.out w3 a n c zs Z2.out (by omega))
  go_wp2_with fail
  refine C3.out.mono ?_
  rintro e w4 ht
  have HLN := Lib.hid HZ.out.1
  cases hmay : mayCode zs
  · unfold CodesSay at ht
    rw [hmay] at ht
    simp only [Bool.false_eq_true, if_false] at ht
    obtain ⟨aa, cap, rfl, hk⟩ := ht
    have K4 := Lib.hid (below_more K2.out hk (Nat.le_refl _))
    have C4 := Lib.hid (docCodes_no w4 a n c zs (Z2.out.below hk) (by omega) hmay)
    clear hk hmay
    go_wp2_with fail
    refine C4.out.mono ?_
    rintro e w5 ⟨rfl, rfl⟩
    go_wp2_with fail
    go_loopw [60] (fun cnt wr => cnt = .int .i64 0 ∧ wr = w5) (fun _ _ => 0)
    case atStart => exact ⟨rfl, rfl⟩
    case round =>
      obtain ⟨rfl, rfl⟩ := hrel
      go_wp2
      go_ret
      exact ⟨rfl, K4.out⟩
  · unfold CodesSay at ht
    rw [hmay] at ht
    simp only [if_true] at ht
    obtain ⟨aa, cap, rfl, hi, hcap, hk⟩ := ht
    have K4 := Lib.hid (below_more K2.out hk (Nat.le_refl _))
    have C4 := Lib.hid (docCodes_yes w4 a n c zs (Z2.out.below hk) (by omega) hmay)
    have HI := Lib.hid hi
    have HM := Lib.hid hmay
    clear hk hi hmay
    go_wp2_with fail
    refine C4.out.mono ?_
    rintro e w5 ht
    obtain ⟨g, rfl, hi, hk⟩ := told_ints ht HM.out HLN.out
    have K5 := Lib.hid (below_more K4.out hk (Nat.le_refl _))
    have I1 := Lib.hid (HI.out.below hk)
    have I2 := Lib.hid hi
    clear hk hi ht
    go_wp2_with fail
    go_loopw [60] (fun cnt wr => ∃ i : Nat, i ≤ n ∧ cnt = .int .i64 i ∧ wr = w5) (fun cnt _ => n - (intOf cnt).toNat)
    case atStart => exact ⟨0, Nat.zero_le _, rfl, rfl⟩
    case round =>
      obtain ⟨i, hi, rfl, rfl⟩ := hrel
      by_cases hlt : i < n
      · obtain ⟨b1, o1, z1, rfl, hz1, _, hc1⟩ := I1.out.at hlt
        obtain ⟨b2, o2, z2, e2, hz2, _, hc2⟩ := I2.out.at hlt
        rw [hz1] at hz2
        cases hz2
        cases e2
        rw [Nat.zero_add] at hc2
        clear hz1
        go_wp2
        go_roundw
        case rel => exact ⟨i + 1, by omega, by go_num, trivial⟩
        case measure => simp [intOf]; omega
      · obtain rfl : i = n := by omega
        go_wp2
        go_ret
        exact ⟨rfl, K5.out⟩
end Go.Proofs.Ytoiknbbimgeihaa
