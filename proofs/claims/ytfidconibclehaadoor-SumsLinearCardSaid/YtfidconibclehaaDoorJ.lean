/- Parts in any portions, a byte more: the walk of SumsSwap. -/
import Derived.Test.YtfidconibclehaaDoorI
import Derived.StillTailTactics
namespace Go.Proofs.YtfidconibclehaaDoor
open Go.RowKit
set_option linter.unusedVariables false

theorem swap_out (a : Option Addr) (n c : Nat) (t : Int) (u : Int) (w : World) (hF : Fours w) (h : 3000 < n ∨ t < 0 ∨ (n : Int) < t) : Calls Tryd.prog 8 #[.slice a n c, .int .i64 t, .int .u8 u] w (Yes w) := by
  have A := Lib.hid (anchor_any w hF)
  clear hF
  by_cases h0 : 3000 < n
  · have t0 : decide ((3000 : Int) < n) = true := by simp; omega
    go_enter Tryd.func8, Tryd.ntmps8
    go_wp2_with fail
    refine A.out.mono ?_
    rintro e w1 ⟨rfl, hk⟩
    have HK := Lib.hid hk
    clear hk
    go_wp2_with fail
    go_ret
    exact ⟨rfl, HK.out⟩
  · have t0 : decide ((3000 : Int) < n) = false := by simp; omega
    by_cases h1 : t < 0
    · have t1 : decide (t < 0) = true := by simpa using h1
      go_enter Tryd.func8, Tryd.ntmps8
      go_wp2_with fail
      refine A.out.mono ?_
      rintro e w1 ⟨rfl, hk⟩
      have HK := Lib.hid hk
      clear hk
      go_wp2_with fail
      go_ret
      exact ⟨rfl, HK.out⟩
    · have t1 : decide (t < 0) = false := by simpa using h1
      have t2 : decide ((n : Int) < t) = true := by simp; omega
      go_enter Tryd.func8, Tryd.ntmps8
      go_wp2_with fail
      refine A.out.mono ?_
      rintro e w1 ⟨rfl, hk⟩
      have HK := Lib.hid hk
      clear hk
      go_wp2_with fail
      go_ret
      exact ⟨rfl, HK.out⟩

/-- A list of texts laid by the call. -/
theorem some_texts (w : World) (cs : Array Value) (ls : List (List Nat)) (hl : cs.size = ls.length) (h : ∀ (i : Nat) (ys : List Nat), ls[i]? = some ys → ∃ a n c, cs[i]? = some (.slice a n c) ∧ Arg w a n c ys) : Texts (w.alloc (.cells cs 24)) (some ⟨w.heap.size, 0, none⟩) ls.length ls := by
  refine ⟨rfl, fun i ys hi => ?_⟩
  obtain ⟨a, n, c, hc, hb, hn⟩ := h i ys hi
  exact ⟨_, _, a, n, c, rfl, by rw [World.cell?_alloc_mark, Nat.zero_add]; exact hc, hn, hb.later (fun k hk => Below.heap_alloc _ _ _ hk)⟩
theorem nil_arg (w : World) : Arg w none 0 0 [] := ⟨⟨rfl, fun _ h => absurd h List.not_mem_nil, fun h => absurd h (Nat.lt_irrefl 0)⟩, Nat.le_refl _, fun _ => ⟨rfl, rfl⟩⟩
theorem Arg.take {w : World} {a : Option Addr} {n c k : Nat} {ys : List Nat} (h : Arg w a n c ys) (hk : k ≤ n) : Arg w a k c (ys.take k) := by
  obtain ⟨⟨h1, h2, h3⟩, h4, h5⟩ := h
  refine ⟨⟨by rw [List.length_take]; omega, take_lt h2 k, fun hp => ?_⟩, by omega, fun e => ⟨by have := (h5 e).1; omega, (h5 e).2⟩⟩
  obtain ⟨b, off, e, hc⟩ := h3 (by omega)
  exact ⟨b, off, e, fun j y hj => hc j y (by
    rw [List.getElem?_take] at hj
    split at hj
    · exact hj
    · cases hj)⟩
theorem Arg.drop {w : World} {a : Option Addr} {n c k : Nat} {ys : List Nat} (h : Arg w a n c ys) (hk : k ≤ n) : Arg w (if c = k then a else a.map (fun x => x.add k)) (n - k) (c - k) (ys.drop k) := by
  refine ⟨h.1.drop hk h.2.1, by have := h.2.1; omega, fun e => ?_⟩
  split at e
  · have := h.2.2 e; omega
  · cases a with
    | none => have := h.2.2 rfl; omega
    | some a => cases e

theorem three_texts {w : World} {a a' : Option Addr} {n c n' c' : Nat} {xs ys : List Nat} (h : Arg w a n c xs) (h' : Arg w a' n' c' ys) :
    Texts (w.alloc (.cells #[.slice a n c, .slice none 0 0, .slice a' n' c'] 24)) (some ⟨w.heap.size, 0, none⟩) 3 [xs, [], ys] := by
  refine some_texts w _ [xs, [], ys] rfl (fun i zs hi => ?_)
  match i, hi with
  | 0, hi => cases hi; exact ⟨_, _, _, rfl, h⟩
  | 1, hi => cases hi; exact ⟨_, _, _, rfl, nil_arg w⟩
  | 2, hi => cases hi; exact ⟨_, _, _, rfl, h'⟩
  | i + 3, hi => simp at hi
theorem four_texts {w : World} {a a' : Option Addr} {n c n' c' : Nat} {xs ys : List Nat} (h : Arg w a n c xs) (h' : Arg w a' n' c' ys) :
    Texts (w.alloc (.cells #[.slice none 0 0, .slice a n c, .slice a' n' c', .slice none 0 0] 24)) (some ⟨w.heap.size, 0, none⟩) 4 [[], xs, ys, []] := by
  refine some_texts w _ [[], xs, ys, []] rfl (fun i zs hi => ?_)
  match i, hi with
  | 0, hi => cases hi; exact ⟨_, _, _, rfl, nil_arg w⟩
  | 1, hi => cases hi; exact ⟨_, _, _, rfl, h⟩
  | 2, hi => cases hi; exact ⟨_, _, _, rfl, h'⟩
  | 3, hi => cases hi; exact ⟨_, _, _, rfl, nil_arg w⟩
  | i + 4, hi => simp at hi
theorem parts_small {xs ys : List Nat} {n : Nat} (hx : xs.length ≤ n) (hy : ys.length ≤ n) : (∀ zs ∈ [xs, [], ys], zs.length ≤ n) ∧ ∀ zs ∈ [[], xs, ys, []], zs.length ≤ n := by
  constructor <;> intro zs hz <;> simp at hz <;> rcases hz with rfl | rfl | rfl | rfl <;> first | assumption | simp

theorem below_drew {B : Nat} {w w1 : World} (h : Below B w w1) : Below B w w1.drew := ⟨h.os, h.tape, h.output, h.size, h.block⟩

/-- The other sum, a byte more. -/
theorem adler_byte (ys : List Nat) (u : Nat) : ∃ s1 s2, s1 < 65521 ∧ s2 < 65521 ∧ Sums.adler ys = 65536 * s2 + s1 ∧ Sums.adler (ys ++ [u]) = 65536 * ((s2 + (s1 + u) % 65521) % 65521) + (s1 + u) % 65521 := by
  have hl := Sums.adls_lt (1, 0) ys ⟨by decide, by decide⟩
  refine ⟨(Sums.adls (1, 0) ys).1, (Sums.adls (1, 0) ys).2, hl.1, hl.2, rfl, ?_⟩
  have e : Sums.adler (ys ++ [u]) = 65536 * (Sums.adls (1, 0) (ys ++ [u])).2 + (Sums.adls (1, 0) (ys ++ [u])).1 := rfl
  rw [e, Sums.adls_append, Sums.adls_cons, Sums.adls_nil]
  rfl
theorem i64_half (x : Nat) (hx : x < 4294967296) : bits .and .i64 (x : Int) 65535 = ((x % 65536 : Nat) : Int) := i64_mask x 16 (by omega) (by omega)

set_option maxRecDepth 100000 in
set_option maxHeartbeats 1600000 in
theorem swap_good (a : Option Addr) (n c : Nat) (ys : List Nat) (k : Nat) (u : Nat) (w : World) (hF : Fours w) (h0 : n ≤ 3000) (hk : k ≤ n) (hu : u < 256) (hy : Arg w a n c ys) : Calls Tryd.prog 8 #[.slice a n c, .int .i64 k, .int .u8 u] w (Yes w) := by
  have A := Lib.hid (anchor_any w hF)
  have HF := Lib.hid hF
  have HY := Lib.hid hy
  have t0 : decide ((3000 : Int) < n) = false := by simp; omega
  have t2 : decide ((n : Int) < (k : Int)) = false := by simp; omega
  have hkc : k ≤ c := by have := hy.2.1; omega
  have hT := hy.take hk
  have hD := hy.drop hk
  have hjoin : ys.take k ++ ys.drop k = ys := List.take_append_drop k ys
  have hlen := hy.1.1
  generalize hA' : (if c = k then a else a.map (fun x => x.add k)) = a' at *
  have HT := Lib.hid hT
  have HD := Lib.hid hD
  have HJ := Lib.hid hjoin
  have HL := Lib.hid hlen
  have HS := Lib.hid (parts_small (n := 16777216) (show (ys.take k).length ≤ 16777216 by simp; omega) (show (ys.drop k).length ≤ 16777216 by simp; omega))
  have HA' := Lib.hid hA'
  clear hF hy hT hD hjoin hlen hA'
  go_enter Tryd.func8, Tryd.ntmps8
  go_wp2_with fail
  refine A.out.mono ?_
  rintro e w1 ⟨rfl, hk1⟩
  have h3 := three_texts (below_drew (Below.refl w1.heap.size w1) |> fun b => (HT.out.below hk1).below b) ((HD.out.below hk1).below (below_drew (Below.refl w1.heap.size w1)))
  have kw2 : Below w.heap.size w (w1.drew.alloc (.cells #[.slice a k c, .slice none 0 0, .slice a' (n - k) (c - k)] 24)) := (below_drew hk1).alloc hk1.size _
  have C1 := adler_any _ _ 3 3 _ (by omega) HS.out.1 h3
  rw [show [ys.take k, [], ys.drop k].flatten = ys by simp] at C1
  have C1 := Lib.hid C1
  obtain ⟨w2, hw2⟩ : ∃ w2, w2 = w1.drew.alloc (.cells #[.slice a k c, .slice none 0 0, .slice a' (n - k) (c - k)] 24) := ⟨_, rfl⟩
  rw [← hw2] at kw2
  have h4 := four_texts ((HT.out.below kw2).below (below_drew (Below.refl w2.heap.size w2))) ((HD.out.below kw2).below (below_drew (Below.refl w2.heap.size w2)))
  have kw3 : Below w.heap.size w (w2.drew.alloc (.cells #[.slice none 0 0, .slice a k c, .slice a' (n - k) (c - k), .slice none 0 0] 24)) := (below_drew kw2).alloc kw2.size _
  have C2 := crc_any _ _ 4 4 _ (by omega) HS.out.2 h4 (HF.out.below kw3)
  rw [show [[], ys.take k, ys.drop k, []].flatten = ys by simp] at C2
  have C2 := Lib.hid C2
  obtain ⟨w3, hw3⟩ : ∃ w3, w3 = w2.drew.alloc (.cells #[.slice none 0 0, .slice a k c, .slice a' (n - k) (c - k), .slice none 0 0] 24) := ⟨_, rfl⟩
  rw [← hw3] at kw3
  have kw4 : Below w.heap.size w (w3.alloc (.cells #[.int .u8 (u : Int)] 5)) := kw3.alloc kw3.size _
  have C3 := adlerMore_text _ ys _ 1 1 [u] (by omega) (by omega) (lit_bytes w3 #[.int .u8 (u : Int)] [u] (0, 0) rfl (by intro x hx; simp only [List.mem_singleton] at hx; omega))
  have C3 := Lib.hid C3
  have D1 := Lib.hid (docAdler_any _ a n c ys (by omega) (HY.out.below kw4).1)
  have D2 := Lib.hid (docCrc_any _ a n c ys (by omega) (HY.out.below kw4).1)
  have HK1 := Lib.hid hk1
  have KW4 := Lib.hid kw4
  have HW2 := Lib.hid hw2
  have HW3 := Lib.hid hw3
  obtain ⟨s1, s2, hs1, hs2, hx, hz⟩ := adler_byte ys u
  have hzl := Sums.adler_lt (ys ++ [u])
  have q1 := i64_half (Sums.adler ys) (Sums.adler_lt ys)
  have q2 := i64_half (Sums.adler (ys ++ [u])) hzl
  have hm1 : (s1 + u) % 65521 < 65521 := Nat.mod_lt _ (by omega)
  have e1 : ((s1 : Int) + u) % 65521 = (((s1 + u) % 65521 : Nat) : Int) := by omega
  generalize (s1 + u) % 65521 = m1 at *
  have hm2 : (s2 + m1) % 65521 < 65521 := Nat.mod_lt _ (by omega)
  have e2 : ((s2 : Int) + m1) % 65521 = (((s2 + m1) % 65521 : Nat) : Int) := by omega
  generalize (s2 + m1) % 65521 = m2 at *
  rw [show Sums.adler ys % 65536 = s1 by omega] at q1
  rw [show Sums.adler (ys ++ [u]) % 65536 = m1 by omega] at q2
  have q3 : ((Sums.adler ys : Nat) : Int) / 65536 = s2 := by omega
  have q4 : ((Sums.adler (ys ++ [u]) : Nat) : Int) / 65536 = m2 := by omega
  clear hk1 kw2 kw3 kw4 h3 h4 hx hz hzl hw2 hw3
  generalize Sums.adler (ys ++ [u]) = z at *
  generalize Sums.adler ys = x at *
  generalize Sums.crc ys = y at *
  go_wp2
  go_still_tail 6, (by kernel_rfl)
  rw [HA'.out]
  change wpList _ _ _ _ _ w1.drew
  go_wp2_with fail
  refine C1.out.mono ?_
  rintro e w4 ⟨rfl, hw⟩
  obtain rfl : w4 = w2 := hw.trans HW2.out.symm
  clear hw
  go_wp2
  go_still_tail 6, (by kernel_rfl)
  rw [HA'.out]
  change wpList _ _ _ _ _ (World.drew _)
  go_wp2_with fail
  refine C2.out.mono ?_
  rintro e w4 ⟨rfl, hw⟩
  obtain rfl : w4 = w3 := hw.trans HW3.out.symm
  clear hw
  go_wp2_with fail
  refine C3.out.mono ?_
  rintro e w4 ⟨rfl, rfl⟩
  go_wp2_with fail
  refine D1.out.mono ?_
  rintro e w4 ⟨rfl, rfl⟩
  go_wp2_with fail
  refine D2.out.mono ?_
  rintro e w4 ⟨rfl, rfl⟩
  go_wp2_with fail
  go_ret
  exact ⟨rfl, KW4.out⟩
end Go.Proofs.YtfidconibclehaaDoor
