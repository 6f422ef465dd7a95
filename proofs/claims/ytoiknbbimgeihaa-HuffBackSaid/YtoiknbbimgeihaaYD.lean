/- What a decoder of all codes answers; the contract of NewDecoder. -/
import Derived.Test.YtoiknbbimgeihaaYC
import Derived.Test.YtoiknbbimgeihaaXE
namespace Go.Proofs.Ytoiknbbimgeihaa
open Go.RowKit
set_option linter.unusedVariables false

/-- Lengths and codes as they are. -/
structure TF (zs cz : List Int) (l c : Nat → Nat) : Prop where
  at' : ∀ s, s < zs.length → zs.getD s 0 = (l s : Int) ∧ l s ≤ 16 ∧ cz.getD s 0 = (c s : Int) ∧ (0 < l s → c s < 2 ^ l s)
  apart : Trie.Apart l c zs.length
  out : ∀ s, zs.length ≤ s → l s = 0
theorem tf_of {zs : List Int} (hm : mayCode zs = true) : ∃ l c, TF zs (codesZ zs) l c := by
  obtain ⟨hle, hrm⟩ := may_rooms hm
  have hl : lensOk zs = true := by unfold mayCode at hm; rw [Bool.and_eq_true] at hm; exact hm.1
  have hat := fun i hi => code_below (nats zs) i hi
  have hap := fun i j hi hj => code_apart (nats zs) i j hi hj
  have hcz := fun i hi => codesZ_at (zs := zs) (i := i) hi
  have hnl := nats_length zs
  refine ⟨fun s => (nats zs).getD s 0, fun s => outOf (nats zs) (Huff.ordered (nats zs) 16) s, ⟨fun s hs => ?_, fun s t hs ht hne h0 hst => ?_, fun s hs => ?_⟩⟩
  · exact ⟨(nats_at hl hs).1, (nats_at hl hs).2, hcz s hs, fun h0 => hat s (by rw [hnl]; exact hs) h0 (nats_at hl hs).2 hrm⟩
  · exact hap s t (by rw [hnl]; exact hs) (by rw [hnl]; exact ht) h0 hst (nats_at hl ht).2 hne
  · show (nats zs).getD s 0 = 0
    rw [List.getD_eq_getElem?_getD, List.getElem?_eq_none (by rw [hnl]; exact hs)]; rfl

theorem beginsS_is {zs cs : List Int} {n v : Int} {k : Nat} (h : beginsS zs cs n v k = true) : ∃ s, s < k ∧ n < zs.getD s 0 ∧ cs.getD s 0 / 2 ^ (zs.getD s 0 - n).toNat = v := by
  unfold beginsS at h
  rw [List.any_eq_true] at h
  obtain ⟨s, h1, h2⟩ := h
  unfold longer at h2
  simp only [Bool.and_eq_true, decide_eq_true_eq, beq_iff_eq] at h2
  exact ⟨s, List.mem_range.1 h1, h2.1, h2.2⟩
theorem beginsS_has {zs cs : List Int} {n v : Int} {k s : Nat} (h1 : s < k) (h2 : n < zs.getD s 0) (h3 : cs.getD s 0 / 2 ^ (zs.getD s 0 - n).toNat = v) : beginsS zs cs n v k = true := by
  unfold beginsS
  rw [List.any_eq_true]
  refine ⟨s, List.mem_range.2 h1, ?_⟩
  unfold longer
  simp only [Bool.and_eq_true, decide_eq_true_eq, beq_iff_eq]
  exact ⟨h2, h3⟩

open Trie in
/-- Step, by the document's own words. -/
theorem step_is {zs cz : List Int} {l c : Nat → Nat} {ps : List (Nat × Nat)} {cs : List Int} (T : TF zs cz l c) (tree : Tree l c zs.length ps (wayOf cs)) {st n v b : Nat} (hps : ps[st]? = some (n, v)) (hb : b < 2) :
    (∀ s, findS zs cz ((n + 1 : Nat) : Int) ((2 * v + b : Nat) : Int) zs.length = some s → stepOf ps.length cs st b = (0, (s : Int))) ∧
    (findS zs cz ((n + 1 : Nat) : Int) ((2 * v + b : Nat) : Int) zs.length = none → beginsS zs cz ((n + 1 : Nat) : Int) ((2 * v + b : Nat) : Int) zs.length = true → ∃ t : Nat, stepOf ps.length cs st b = ((t : Int), -1) ∧ 0 < t ∧ ps[t]? = some (n + 1, 2 * v + b)) ∧
    (findS zs cz ((n + 1 : Nat) : Int) ((2 * v + b : Nat) : Int) zs.length = none → beginsS zs cz ((n + 1 : Nat) : Int) ((2 * v + b : Nat) : Int) zs.length = false → stepOf ps.length cs st b = (-1, -1)) := by
  have hsl : st < ps.length := (List.getElem?_eq_some_iff.1 hps).1
  have hst : stepOf ps.length cs st b = if wayOf cs st b = 0 then (-1, -1) else if wayOf cs st b < 0 then (0, -(wayOf cs st b) - 1) else (wayOf cs st b, -1) := by
    unfold stepOf
    rw [if_pos ⟨by omega, by omega⟩, Int.toNat_natCast]
  refine ⟨fun s hs => ?_, fun hf hg => ?_, fun hf hg => ?_⟩
  · obtain ⟨h1, h2, h3⟩ := findS_is hs
    obtain ⟨q1, q2, q3, q4⟩ := T.at' s h1
    rw [q1] at h2
    rw [q3] at h3
    have e1 : l s = n + 1 := by omega
    have e2 : c s = 2 * v + b := by omega
    have he := tree.ends s st h1 (by omega) (by
      rw [hps]
      congr 1
      simp only [pre]
      rw [e1, e2, show n + 1 - (n + 1 - 1) = 1 by omega, Prod.mk.injEq]
      omega)
    rw [e2, show (2 * v + b) % 2 = b by omega] at he
    rw [hst, he, if_neg (by omega), if_pos (by omega), Prod.mk.injEq]
    omega
  · obtain ⟨s, h1, h2, h3⟩ := beginsS_is hg
    obtain ⟨q1, q2, q3, q4⟩ := T.at' s h1
    rw [q1] at h2
    rw [q1, q3, show ((l s : Int) - ((n + 1 : Nat) : Int)).toNat = l s - (n + 1) by omega] at h3
    have h4 : c s / 2 ^ (l s - (n + 1)) = 2 * v + b := by
      have : ((c s / 2 ^ (l s - (n + 1)) : Nat) : Int) = ((2 * v + b : Nat) : Int) := by rw [← h3]; simp
      omega
    obtain ⟨t, ht⟩ := tree.have_ s (n + 1) h1 (by omega)
    have ep : pre (l s) (c s) (n + 1) = (n + 1, 2 * v + b) := by simp only [pre, h4]
    rw [ep] at ht
    have ht0 : 0 < t := by
      rcases Nat.eq_zero_or_pos t with e | e
      · subst e
        rw [tree.root, Option.some.injEq, Prod.mk.injEq] at ht
        omega
      · exact e
    have hw := tree.parent hps hb ht ht0
    refine ⟨t, ?_, ht0, ht⟩
    rw [hst, hw, if_neg (by omega), if_neg (by omega)]
  · rw [hst]
    by_cases h0 : wayOf cs st b = 0
    · rw [if_pos h0]
    · exfalso
      by_cases hn : wayOf cs st b < 0
      · obtain ⟨s, h1, h2, h3, h4⟩ := tree.leaf st b n v hps hb hn
        obtain ⟨q1, q2, q3, q4⟩ := T.at' s h1
        obtain ⟨t, ht⟩ := findS_has (zs := zs) (cs := cz) (n := ((n + 1 : Nat) : Int)) (v := ((2 * v + b : Nat) : Int)) h1 (by rw [q1, h3]) (by rw [q3, h4])
        rw [hf] at ht
        cases ht
      · obtain ⟨t, ht⟩ := Int.eq_ofNat_of_zero_le (show 0 ≤ wayOf cs st b by omega)
        have hd := tree.down st b t n v hps hb ht (by omega)
        obtain ⟨s, j, h1, h2, h3, h4⟩ := tree.of_ t _ hd (by omega)
        rw [Prod.ext_iff] at h4
        simp only [pre] at h4
        obtain ⟨h4, h5⟩ := h4
        rcases Nat.lt_or_ge s zs.length with hs | hs
        · obtain ⟨q1, q2, q3, q4⟩ := T.at' s hs
          have : beginsS zs cz ((n + 1 : Nat) : Int) ((2 * v + b : Nat) : Int) zs.length = true := beginsS_has hs (by rw [q1]; omega) (by
            rw [q1, q3, show ((l s : Int) - ((n + 1 : Nat) : Int)).toNat = l s - j by omega, h5]
            simp)
          rw [hg] at this
          cases this
        · have := T.out s hs
          omega

/-- What NewDecoder gives. -/
def NewSay (w : World) (zs : List Int) (e : Ending) (w' : World) : Prop :=
  if mayCode zs = true then ∃ B D l c, e = .returned (.tuple #[.pointer (some ⟨D, 0, none⟩), .bool true]) ∧ TF zs (codesZ zs) l c ∧ DecT w' B D l c zs.length ∧ Below w.heap.size w w'
  else e = .returned (.tuple #[.pointer none, .bool false]) ∧ Below w.heap.size w w'
theorem new_yes {w w' : World} {zs : List Int} {e : Ending} (hm : mayCode zs = true) (h : ∃ B D l c, e = .returned (.tuple #[.pointer (some ⟨D, 0, none⟩), .bool true]) ∧ TF zs (codesZ zs) l c ∧ DecT w' B D l c zs.length ∧ Below w.heap.size w w') : NewSay w zs e w' := by
  unfold NewSay; rw [if_pos hm]; exact h
theorem new_no {w w' : World} {zs : List Int} {e : Ending} (hm : mayCode zs = false) (h : e = .returned (.tuple #[.pointer none, .bool false]) ∧ Below w.heap.size w w') : NewSay w zs e w' := by
  unfold NewSay; rw [hm, if_neg (by simp)]; exact h

theorem run_make_pairs (w : World) : (Instr.makeSlice 46 (.int .i64 1) (.int .i64 1)).run Try.prog w = .ok (.slice (some ⟨w.heap.size, 0, none⟩) 1 1) (w.alloc (.cells #[.int .i64 0, .int .i64 0] 50)) := by
  obtain ⟨i, hi, hzz⟩ := Option.map_eq_some_iff.1 info50
  simp only [Prod.mk.injEq] at hzz
  obtain ⟨hz, hs, hb⟩ := hzz
  have hr := run_make (P := Try.prog) w 46 50 i _ Try.underlying46 hi hz .i64 .i64 1 1 (by omega) (Int.le_refl _) (by rw [hb]; omega) (by omega)
  have e : madeCells (Value.agg #[.int .i64 0, .int .i64 0]).cells (Int.toNat 1 * 2) = #[.int .i64 0, .int .i64 0] := by kernel_rfl
  rw [hr, hs, e]
  rfl
theorem dec_start (w : World) (l c : Nat → Nat) : DecT ((w.alloc (.cells #[.int .i64 0, .int .i64 0] 50)).alloc (.cells #[.slice (some ⟨w.heap.size, 0, none⟩) 1 1] 48)) w.heap.size (w.heap.size + 1) l c 0 := by
  have h1 : (w.alloc (.cells #[.int .i64 0, .int .i64 0] 50)).heap.size = w.heap.size + 1 := Array.size_push _
  refine ⟨.slice (some ⟨w.heap.size, 0, none⟩) 1 1, [(0, 0)], [0, 0], ⟨Nat.le_succ _, by rw [← h1]; exact heap_alloc_new _ _, ⟨rfl, Or.inr ⟨w.heap.size, 1, #[.int .i64 0, .int .i64 0], rfl, Nat.le_refl _, ?_, Nat.le_refl _, by unfold maxLen; omega, rfl, rfl⟩⟩, by simp [Value.ownBlock]⟩, ?_, by simp, by intro z hz; simp at hz; omega⟩
  · exact (Below.heap_alloc _ _ _ (by rw [h1]; omega)).trans (heap_alloc_new _ _)
  · have e : wayOf [0, 0] = fun _ _ => 0 := by
      funext st b
      unfold wayOf
      match st * 2 + b with
      | 0 => rfl
      | 1 => rfl
      | k + 2 => rfl
    rw [e]
    exact Trie.tree_none l c

set_option maxRecDepth 100000 in
set_option maxHeartbeats 1600000 in
theorem new_any (w : World) (a : Option Addr) (n c : Nat) (zs : List Int) (h : Ints w a n zs) (hn : n ≤ 16777216) :
    Calls Try.prog 18 #[.slice a n c] w (NewSay w zs) := by
  have C0 := codes_says w a n c zs h hn
  unfold CodesSay at C0
  have HZ := Lib.hid h
  cases hm : mayCode zs
  · rw [hm] at C0
    simp only [Bool.false_eq_true, if_false] at C0
    have C := Lib.hid C0
    have HM := Lib.hid hm
    clear h C0 hm
    go_enter Try.func18, Try.ntmps18
    go_wp2_with fail
    refine C.out.mono ?_
    rintro e w1 ⟨aa, cap, rfl, hb⟩
    have HB := Lib.hid hb
    clear hb
    go_wp2_with fail
    go_ret2
    exact new_no HM.out ⟨rfl, HB.out⟩
  · rw [hm] at C0
    simp only [if_true] at C0
    obtain ⟨l, cd, T⟩ := tf_of hm
    have hlen : zs.length ≤ 300 := by
      unfold mayCode lensOk at hm
      simp only [Bool.and_eq_true, decide_eq_true_eq] at hm
      exact hm.1.1
    have hln : zs.length = n := h.1
    have C := Lib.hid C0
    have HM := Lib.hid (And.intro hm T)
    have hmk := run_make_pairs
    clear h C0 hm T
    go_enter Try.func18, Try.ntmps18
    go_wp2_with fail
    refine C.out.mono ?_
    rintro e w1 ⟨aa, cap, rfl, hi, hcap, hb⟩
    have HCI := Lib.hid hi
    have HB := Lib.hid hb
    have HD0 := Lib.hid (dec_start w1 l cd)
    clear hi hb
    go_wp2_with fail
    have hs1 : (w1.alloc (.cells #[.int .i64 0, .int .i64 0] 50)).heap.size = w1.heap.size + 1 := Array.size_push _
    have HB0 := Lib.hid (((Below.refl w1.heap.size w1).alloc (Nat.le_refl _) (.cells #[.int .i64 0, .int .i64 0] 50)).alloc (by rw [hs1]; exact Nat.le_succ _) (.cells #[.slice (some ⟨w1.heap.size, 0, none⟩) 1 1] 48))
    clear hmk hs1
    go_loopw [21] (fun cnt wr => ∃ i : Nat, i ≤ n ∧ cnt = .int .i64 i ∧ DecT wr w1.heap.size (w1.heap.size + 1) l cd i ∧ Below w1.heap.size w1 wr) (fun cnt _ => n - (intOf cnt).toNat)
    case atStart => exact ⟨0, Nat.zero_le _, rfl, HD0.out, HB0.out⟩
    case round =>
      clear HD0 HB0
      obtain ⟨i, hi, rfl, hd, hb⟩ := hrel
      by_cases hlt : i < n
      · obtain ⟨b0, o0, z, rfl, hz, _, hcz⟩ := ((HZ.out.below HB.out).below hb).at hlt
        obtain ⟨b1, o1, x, rfl, hx, _, hcx⟩ := (HCI.out.below hb).at hlt
        obtain ⟨q1, q2, q3, q4⟩ := HM.out.2.at' i (by omega)
        rw [zs_getD hz] at q1
        rw [zs_getD hx] at q3
        subst q1
        subst q3
        by_cases h0 : l i = 0
        · have X := Lib.hid (show DecT wr w1.heap.size (w1.heap.size + 1) l cd (i + 1) ∧ Below w1.heap.size w1 wr from by
            obtain ⟨v, ps, cs, k1, k2, k3, k4⟩ := hd
            exact ⟨⟨v, ps, cs, k1, k2.skip h0, by omega, k4⟩, hb⟩)
          rw [h0] at hcz
          have hcz' : wr.cell? ⟨b0, o0 + i, none⟩ = some (.int .i64 0) := hcz
          clear hz hx hcx hcz hd hb q2 q4 h0
          go_wp2_with fail
          go_roundw
          case rel => exact ⟨i + 1, hlt, by go_num, X.out.1, X.out.2⟩
          case measure => simp [intOf]; omega
        · have CL := Lib.hid (lay_any w1 wr w1.heap.size (w1.heap.size + 1) l cd i zs.length hd hb (Nat.le_refl _) HM.out.2.apart (by omega) hlen ⟨by omega, q2⟩ (q4 (by omega)))
          generalize l i = li at *
          generalize cd i = ci at *
          have u1 : decide ((li : Int) = 0) = false := decide_eq_false (by omega)
          have u2 : ((li : Int) == 0) = false := by simp; omega
          have u3 : ((li : Int) != 0) = true := by simp; omega
          have u4 : decide (¬ (li : Int) = 0) = true := decide_eq_true (by omega)
          clear hz hx hd hb q2 q4
          go_wp2_with fail
          refine CL.out.mono ?_
          rintro e w3 ⟨rfl, hd3, hb3⟩
          have X := Lib.hid (And.intro hd3 hb3)
          clear hd3 hb3
          go_wp2_with fail
          go_roundw
          case rel => exact ⟨i + 1, hlt, by go_num, X.out.1, X.out.2⟩
          case measure => simp [intOf]; omega
      · obtain rfl : n = i := by omega
        have X := Lib.hid (show DecT wr w1.heap.size (w1.heap.size + 1) l cd zs.length ∧ Below w.heap.size w wr from ⟨by rw [hln]; exact hd, below_join HB.out hb (Nat.le_refl _)⟩)
        clear hd hb
        go_wp2_with fail
        go_ret2
        exact new_yes HM.out.1 ⟨_, _, l, cd, rfl, HM.out.2, X.out.1, X.out.2⟩
end Go.Proofs.Ytoiknbbimgeihaa
