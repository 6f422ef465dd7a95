/- Three texts of one length, xored: the walk of SumsLinear. -/
import Derived.Test.YtfidconibclehaaDoorJ
namespace Go.Proofs.YtfidconibclehaaDoor
open Go.RowKit
set_option linter.unusedVariables false

theorem linear_out (a0 : Option Addr) (n0 c0 : Nat) (a1 : Option Addr) (n1 c1 : Nat) (a2 : Option Addr) (n2 c2 : Nat) (w : World) (hF : Fours w) (h : 3000 < n0 ∨ n0 ≠ n1 ∨ n0 ≠ n2) : Calls Tryd.prog 7 #[.slice a0 n0 c0, .slice a1 n1 c1, .slice a2 n2 c2] w (Yes w) := by
  have A := Lib.hid (anchor_any w hF)
  clear hF
  by_cases h0 : 3000 < n0
  · have t0 : decide ((3000 : Int) < n0) = true := by simp; omega
    go_enter Tryd.func7, Tryd.ntmps7
    go_wp2_with fail
    refine A.out.mono ?_
    rintro e w1 ⟨rfl, hk⟩
    have HK := Lib.hid hk
    clear hk
    go_wp2_with fail
    go_ret
    exact ⟨rfl, HK.out⟩
  · have t0 : decide ((3000 : Int) < n0) = false := by simp; omega
    by_cases h1 : n0 = n1
    · subst h1
      have t2 : ((n0 : Int) != (n2 : Int)) = true := by simp; omega
      have t1 : ((n0 : Int) != (n0 : Int)) = false := by simp
      go_enter Tryd.func7, Tryd.ntmps7
      go_wp2_with fail
      refine A.out.mono ?_
      rintro e w1 ⟨rfl, hk⟩
      have HK := Lib.hid hk
      clear hk
      go_wp2_with fail
      go_ret
      exact ⟨rfl, HK.out⟩
    · have t1 : ((n0 : Int) != (n1 : Int)) = true := by simp; omega
      go_enter Tryd.func7, Tryd.ntmps7
      go_wp2_with fail
      refine A.out.mono ?_
      rintro e w1 ⟨rfl, hk⟩
      have HK := Lib.hid hk
      clear hk
      go_wp2_with fail
      go_ret
      exact ⟨rfl, HK.out⟩

/-- A row in memory of which the first i places hold what they should. -/
def Part (w : World) (g n i : Nat) (zs : List Nat) : Prop :=
  ∃ cur : Array Value, w.heap[g]? = some (.cells cur 5 (0, 0)) ∧ n ≤ cur.size ∧ ∀ j y, j < i → zs[j]? = some y → cur[j]? = some (.int .u8 (y : Int))
theorem Part.cell {w : World} {g n i j : Nat} {zs : List Nat} (h : Part w g n i zs) (hj : j < n) : ∃ v, w.cell? ⟨g, j, none⟩ = some v ∧ w.frozen? ⟨g, j, none⟩ = false := by
  obtain ⟨cur, h1, h2, h3⟩ := h
  exact ⟨cur[j]'(by omega), by simp [World.cell?, h1, show j < cur.size by omega], by simp [World.frozen?, h1]⟩
theorem Part.set {w : World} {g n i y : Nat} {zs : List Nat} (h : Part w g n i zs) (hi : i < n) (hy : zs[i]? = some y) : Part (w.setCell ⟨g, i, none⟩ (.int .u8 (y : Int))) g n (i + 1) zs := by
  obtain ⟨cur, h1, h2, h3⟩ := h
  refine ⟨cur.setIfInBounds i (.int .u8 (y : Int)), ?_, by simpa using h2, fun j z hj hz => ?_⟩
  · simp only [World.setCell, Array.getElem?_modify, h1]
    simp
  · by_cases e : i = j
    · subst e
      rw [hy] at hz
      cases hz
      rw [Array.getElem?_setIfInBounds_self_of_lt (by omega)]
    · rw [Array.getElem?_setIfInBounds_ne e]
      exact h3 j z (by omega) hz
theorem Part.bytes {w : World} {g n : Nat} {zs : List Nat} (h : Part w g n n zs) (hl : zs.length = n) (hz : ∀ z ∈ zs, z < 256) : Arg w (some ⟨g, 0, none⟩) n n zs := by
  obtain ⟨cur, h1, h2, h3⟩ := h
  refine ⟨⟨hl, hz, fun hp => ⟨g, 0, rfl, fun j y hj => ?_⟩⟩, Nat.le_refl _, fun e => by cases e⟩
  have hjn : j < n := by have := (List.getElem?_eq_some_iff.1 hj).1; omega
  have k := h3 j y hjn hj
  simp [World.cell?, h1, k]
theorem Part.lt {w : World} {g n i : Nat} {zs : List Nat} (h : Part w g n i zs) : g < w.heap.size := by
  obtain ⟨cur, h1, _⟩ := h
  exact lt_of_block h1
theorem Part.below {w w' : World} {g n i : Nat} {zs : List Nat} (h : Part w g n i zs) (hb : Below w.heap.size w w') : Part w' g n i zs := by
  have hl := h.lt
  obtain ⟨cur, h1, h2⟩ := h
  exact ⟨cur, (hb.block g hl).trans h1, h2⟩
theorem below_set {B : Nat} {w w1 : World} (h : Below B w w1) {g i : Nat} (hg : B ≤ g) (v : Value) : Below B w (w1.setCell ⟨g, i, none⟩ v) :=
  ⟨h.os, h.tape, h.output, by simp [World.setCell]; exact h.size, fun k hk => (Below.heap_setCell _ _ _ _ (by simp only; omega)).trans (h.block k hk)⟩

theorem xors_get {xs ys : List Nat} {i x y : Nat} (hx : xs[i]? = some x) (hy : ys[i]? = some y) : (Sums.xors xs ys)[i]? = some (x ^^^ y) := by
  unfold Sums.xors
  rw [List.getElem?_zipWith, hx, hy]
theorem xors_lt {xs ys : List Nat} (hx : ∀ x ∈ xs, x < 256) (hy : ∀ y ∈ ys, y < 256) (h : xs.length = ys.length) : ∀ z ∈ Sums.xors xs ys, z < 256 := by
  intro z hz
  obtain ⟨i, hi⟩ := List.getElem?_of_mem hz
  have hl : i < (Sums.xors xs ys).length := (List.getElem?_eq_some_iff.1 hi).1
  rw [Sums.xors_length _ _ h] at hl
  have k := xors_get (List.getElem?_eq_getElem hl) (List.getElem?_eq_getElem (h ▸ hl))
  rw [hi] at k
  cases k
  exact Nat.xor_lt_two_pow (n := 8) (hx _ (List.getElem_mem _)) (hy _ (List.getElem_mem _))

/-- Crc of one text, handed over in a list that the call lays. -/
theorem crc_lone (w : World) (a : Option Addr) (n c : Nat) (ys : List Nat) (hn : n ≤ 16777216) (h : Arg w a n c ys) (hF : Fours w) :
    Calls Tryd.prog 10 #[.slice (some ⟨w.heap.size, 0, none⟩) 1 1] (w.alloc (.cells #[.slice a n c] 24)) fun e w' => e = .returned (.int .i64 (Sums.crc ys : Nat)) ∧ Below w.heap.size w w' := by
  have hb : Below w.heap.size w (w.alloc (.cells #[.slice a n c] 24)) := (Below.refl _ _).alloc (Nat.le_refl _) _
  have C := crc_any _ _ 1 1 [ys] (by omega) (by intro zs hz; simp only [List.mem_singleton] at hz; subst hz; have := h.1.1; omega) (one_text w a n c ys h.1 h.2) (hF.below hb)
  rw [show [ys].flatten = ys by simp] at C
  exact C.mono (fun e w' ⟨he, hw⟩ => ⟨he, by rw [hw]; exact hb⟩)

set_option maxRecDepth 100000 in
set_option maxHeartbeats 1600000 in
theorem linear_good (a0 : Option Addr) (n c0 : Nat) (xs : List Nat) (a1 : Option Addr) (c1 : Nat) (ys : List Nat) (a2 : Option Addr) (c2 : Nat) (vs : List Nat) (w : World) (hF : Fours w) (h : n ≤ 3000) (hx : Arg w a0 n c0 xs) (hy : Arg w a1 n c1 ys) (hv : Arg w a2 n c2 vs) : Calls Tryd.prog 7 #[.slice a0 n c0, .slice a1 n c1, .slice a2 n c2] w (Yes w) := by
  have A := Lib.hid (anchor_any w hF)
  have HF := Lib.hid hF
  have HX := Lib.hid hx
  have HY := Lib.hid hy
  have HV := Lib.hid hv
  have t0 : decide ((3000 : Int) < n) = false := by simp; omega
  have hmk := run_make_row' (P := Tryd.prog) 24 5 (.int .u8 0) 1 Tryd.underlying24 info5 rfl .i64 .i64 n (by omega) (by omega)
  have e1 : xs.length = ys.length := by rw [hx.1.1, hy.1.1]
  have e2 : xs.length = vs.length := by rw [hx.1.1, hv.1.1]
  have e3 : (Sums.xors xs ys).length = vs.length := by rw [Sums.xors_length _ _ e1, e2]
  have hzl : (Sums.xors (Sums.xors xs ys) vs).length = n := by rw [Sums.xors_length _ _ e3, Sums.xors_length _ _ e1, hx.1.1]
  have hzb : ∀ z ∈ Sums.xors (Sums.xors xs ys) vs, z < 256 := xors_lt (xors_lt hx.1.2.1 hy.1.2.1 e1) hv.1.2.1 e3
  have h3 := Sums.crc_three xs ys vs e1 e2
  have hg : ∀ i x y v, xs[i]? = some x → ys[i]? = some y → vs[i]? = some v → (Sums.xors (Sums.xors xs ys) vs)[i]? = some (x ^^^ y ^^^ v) := fun i x y v q1 q2 q3 => xors_get (xors_get q1 q2) q3
  generalize Sums.xors (Sums.xors xs ys) vs = zs at *
  have HZ := Lib.hid (And.intro hzl (And.intro hzb (And.intro h3 hg)))
  clear hF hx hy hv e1 e2 e3 hzl hzb h3 hg
  go_enter Tryd.func7, Tryd.ntmps7
  go_wp2_with fail
  refine A.out.mono ?_
  rintro e w1 ⟨rfl, hk⟩
  have HK := Lib.hid hk
  have hw1 : w.heap.size ≤ w1.heap.size := hk.size
  clear hk
  go_wp2_with fail
  go_loopw [8, 33] (fun _ cnt wr => ∃ i : Nat, i ≤ n ∧ cnt = .int .i64 i ∧ Part wr w1.heap.size n i zs ∧ Below w.heap.size w wr) (fun _ cnt _ => n - (intOf cnt).toNat)
  case atStart => exact ⟨0, Nat.zero_le _, rfl, ⟨_, heap_alloc_new _ _, by rw [size_madeCells]; exact Nat.le_refl _, fun j y hj => by omega⟩, HK.out.alloc hw1 _⟩
  case round =>
    obtain ⟨i, hi, rfl, hp, hk⟩ := hrel
    by_cases hlt : i < n
    · obtain ⟨b0, o0, x, rfl, hx, hx8, hc0⟩ := (HX.out.below hk).1.at hlt
      obtain ⟨b1, o1, y, rfl, hy, hy8, hc1⟩ := (HY.out.below hk).1.at hlt
      obtain ⟨b2, o2, v, rfl, hv, hv8, hc2⟩ := (HV.out.below hk).1.at hlt
      obtain ⟨old, hold, hfr⟩ := hp.cell hlt
      have q1 := u8_xor_nat x y hx8 hy8
      have q1l : x ^^^ y < 256 := Nat.xor_lt_two_pow (n := 8) hx8 hy8
      have q2 := u8_xor_nat (x ^^^ y) v q1l hv8
      have hz := HZ.out.2.2.2 i x y v hx hy hv
      have X := Lib.hid (And.intro (hp.set hlt hz) (below_set (i := i) hk hw1 (.int .u8 ((x ^^^ y ^^^ v : Nat) : Int))))
      clear hp hk hx hy hv hz
      generalize x ^^^ y = xy at *
      generalize xy ^^^ v = z at *
      go_wp2
      go_still_tail 17, (by kernel_rfl)
      change wpList _ _ _ _ _ wr.drew
      go_wp2_with fail
      go_roundw
      case rel => exact ⟨i + 1, by omega, by go_num, X.out.1, below_drew X.out.2⟩
      case measure => simp [intOf]; omega
    · obtain rfl : i = n := by omega
      have HP := Lib.hid (hp.bytes HZ.out.1 HZ.out.2.1)
      have HK1 := Lib.hid hk
      have hwr : w.heap.size ≤ wr.heap.size := hk.size
      clear hp hk
      have C1 := Lib.hid (crc_lone wr a0 i c0 xs (by omega) (HX.out.below HK1.out) (HF.out.below HK1.out))
      have HC := Lib.hid (And.intro (Sums.crc_lt xs HX.out.1.2.1) (And.intro (Sums.crc_lt ys HY.out.1.2.1) (Sums.crc_lt vs HV.out.1.2.1)))
      go_wp2_with fail
      refine C1.out.mono ?_
      rintro e w2 ⟨rfl, hb2⟩
      have K2 := Lib.hid (below_more HK1.out hb2 (Nat.le_refl _))
      have P2 := Lib.hid (HP.out.below hb2)
      have C2 := Lib.hid (crc_lone w2 a1 i c1 ys (by omega) (HY.out.below K2.out) (HF.out.below K2.out))
      clear hb2
      go_wp2_with fail
      refine C2.out.mono ?_
      rintro e w3 ⟨rfl, hb3⟩
      have K3 := Lib.hid (below_more K2.out hb3 (Nat.le_refl _))
      have P3 := Lib.hid (P2.out.below hb3)
      have C3 := Lib.hid (crc_lone w3 a2 i c2 vs (by omega) (HV.out.below K3.out) (HF.out.below K3.out))
      clear hb3
      have q1 := i64_xor_nat (Sums.crc xs) (Sums.crc ys) (by have := HC.out.1; omega) (by have := HC.out.2.1; omega)
      have q1l : Sums.crc xs ^^^ Sums.crc ys < 4294967296 := Nat.xor_lt_two_pow (n := 32) HC.out.1 HC.out.2.1
      have q2 := i64_xor_nat (Sums.crc xs ^^^ Sums.crc ys) (Sums.crc vs) (by omega) (by have := HC.out.2.2; omega)
      rw [HZ.out.2.2.1] at q2
      generalize Sums.crc xs ^^^ Sums.crc ys = xy at *
      clear q1l
      go_wp2_with fail
      refine C3.out.mono ?_
      rintro e w4 ⟨rfl, hb4⟩
      have K4 := Lib.hid (below_more K3.out hb4 (Nat.le_refl _))
      have C4 := Lib.hid (crc_lone w4 _ i i zs (by omega) (P3.out.below hb4) (HF.out.below K4.out))
      clear hb4
      go_wp2_with fail
      refine C4.out.mono ?_
      rintro e w5 ⟨rfl, hb5⟩
      have K5 := Lib.hid (below_more K4.out hb5 (Nat.le_refl _))
      clear hb5
      go_wp2_with fail
      go_ret
      exact ⟨rfl, K5.out⟩
end Go.Proofs.YtfidconibclehaaDoor
