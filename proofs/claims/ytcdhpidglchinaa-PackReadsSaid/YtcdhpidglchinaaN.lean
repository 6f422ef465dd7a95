/- The document's Num; Same. -/
import Derived.Test.YtcdhpidglchinaaF
import Derived.Test.YtcdhpidglchinaaG
namespace Go.Proofs.Ytcdhpidglchinaa
open Go.RowKit Go.Lib Pk
set_option linter.unusedSimpArgs false
set_option linter.unusedVariables false

theorem own_grown {w W w1 : World} {B E k n m : Nat} {T : TypeId} {hd : Hd} {aa : Option Addr} {cap : Nat} {vs us : List Value} (kW : Keeps none' w W) (hB : B ≤ w.heap.size) (hold : ∀ q, (Value.slice hd.a hd.n hd.c).ownBlock = some q → B ≤ q)
    (hg : W.grownBy w1 (Value.slice hd.a hd.n hd.c).ownBlock) : ∀ {u : World}, Keeps none' u w → u.heap.size ≤ B → Keeps none' u w1 := by
  intro u ku hu
  exact ((ku.next kW).grown hg (fun q hq e => by have := hold q e; omega))
theorem meas128 {k : Nat} (h : 0 < k) : (intOf (.int .i64 ((k : Int) / 128))).toNat < (intOf (.int .i64 (k : Int))).toNat := by
  simp only [intOf]
  omega
set_option maxRecDepth 100000 in
set_option maxHeartbeats 1600000 in
theorem Num_any (w : World) (n : Int) (hn : Fit n) : Calls Try.prog 15 #[.int .i64 n] w (ToldB w (put n)) := by
  obtain ⟨i0, hi, hz0, hz1, hz2⟩ := info_parts info5
  obtain ⟨Z, hZ⟩ : ∃ Z, Z = zig n := ⟨_, rfl⟩
  have hput : put n = enc Z := by rw [hZ]; rfl
  have hlen := put_short hn
  rw [hput] at hlen
  rw [hput]
  have HL := Lib.hid hlen
  have HZ := Lib.hid (show ∃ (m : Nat), m < 9223372036854775808 ∧ ((0 ≤ n ∧ n = (m : Int) ∧ Z = 2 * m) ∨ (n < 0 ∧ -1 - n = (m : Int) ∧ Z = 2 * m + 1)) from by
    unfold Fit at hn
    unfold zig at hZ
    by_cases h : 0 ≤ n
    · rw [if_pos h] at hZ
      exact ⟨n.toNat, by omega, Or.inl ⟨h, by omega, by omega⟩⟩
    · rw [if_neg h] at hZ
      exact ⟨(-1 - n).toNat, by omega, Or.inr ⟨by omega, by omega, by omega⟩⟩)
  clear hZ hput hlen hn
  obtain ⟨m, hm, hcase⟩ := HZ.out
  clear HZ
  obtain ⟨m1, hm1⟩ : ∃ m1, m1 = m / 64 := ⟨_, rfl⟩
  have e0 : wrap64 ((m : Int) / 64) = (m1 : Int) := by unfold wrap64; omega
  rcases hcase with ⟨h0, rfl, hZ⟩ | ⟨h0, hm2, hZ⟩
  · obtain ⟨c1, hc1⟩ : ∃ c1, c1 = 2 * (m % 64) := ⟨_, rfl⟩
    have e5 : (m : Int) % 64 * 2 = (c1 : Int) := by omega
    have HH := Lib.hid (show enc Z = [] ++ enc (c1 + 128 * m1) ∧ c1 < 128 ∧ m1 < 9223372036854775808 from ⟨by rw [List.nil_append]; congr 1; omega, by omega, by omega⟩)
    have hb : decide ((m : Int) < 0) = false := by simp
    clear hm hZ h0 hc1 hm1
    go_enter Try.func15, Try.ntmps15
    go_wp2_with fail
    simp only [e0, e5]
    clear e0 e5 hb
    go_loopw [0, 3, 5] (fun r o cv wr => ∃ (k cc : Nat) (pre : List Nat) (hd : Hd), enc Z = pre ++ enc (cc + 128 * k) ∧ cc < 128 ∧ k < 9223372036854775808 ∧ r = .int .i64 k ∧ cv = .int .i64 cc ∧ o = .slice hd.a hd.n hd.c ∧ pre.length = hd.n ∧ wr.ownsRow w.heap.size 5 1 (.slice hd.a hd.n hd.c) hd.n (bys pre) ∧ Keeps none' w wr) (fun r _ _ _ => (intOf r).toNat)
    case atStart => exact ⟨m1, c1, [], Hd.nil, HH.out.1, HH.out.2.1, HH.out.2.2, rfl, rfl, rfl, rfl, ⟨rfl, .inl ⟨rfl, rfl⟩⟩, Keeps.refl _ _⟩
    case round =>
      obtain ⟨k, cc, pre, ⟨a, q, c⟩, he, hc, hk, rfl, rfl, rfl, hq, ho, hK⟩ := hrel
      simp only at hq
      have HE := Lib.hid he
      have HB := Lib.hid (And.intro hc hk)
      have HO := Lib.hid ho
      have HK := Lib.hid hK
      have hq2 : q ≤ 10 := by have h1 := HL.out; rw [he] at h1; simp only [List.length_append] at h1; omega
      have HQ := Lib.hid hq
      have hsz : w.heap.size ≤ wr.heap.size := hK.size
      clear he ho hK hq hk
      simp only
      by_cases hz : 0 < k
      · obtain ⟨y, hy⟩ : ∃ y, y = cc + 128 := ⟨_, rfl⟩
        have wy : IntKind.u8.wrap ((cc : Int) + 128) = (y : Int) := by simp [IntKind.wrap, IntKind.bits, IntKind.signed]; omega
        obtain ⟨c2, hc2⟩ : ∃ c2, c2 = k % 128 := ⟨_, rfl⟩
        obtain ⟨k2, hk2⟩ : ∃ k2, k2 = k / 128 := ⟨_, rfl⟩
        have ek := Lib.hid (show (k : Int) / 128 = (k2 : Int) by omega)
        have hk' : k ≤ 9223372036854775807 := by have := HB.out.2; omega
        have HY := Lib.hid (And.intro hy (And.intro hc2 hk2))
        have e2 := Lib.hid (show (k : Int) % 128 = (c2 : Int) by omega)
        have NW := Lib.hid (cells_new 1 wr #[.int .u8 (y : Int)] 5 1 1 (bys [y]) rfl rfl (Nat.le_refl _) (bys_one _))
        have WA := Lib.hid (own_kept HO.out (w' := wr.alloc (.cells #[.int .u8 (y : Int)] 5)) (fun g hg => Below.heap_alloc _ _ _ (own_lt HO.out g hg).2))
        clear hy hc2 hk2
        go_wp2_with (at_builtin; refine wpList_append_row rfl 29 5 _ _ rfl i0 _ 1 1 Try.underlying29 hi hz0 hz1 hz2 rfl (by decide) (by decide) w.heap.size q (.slice a q c) _ rfl WA.out ⟨some ⟨wr.heap.size, 0, none⟩, 1, 1⟩ _ rfl NW.out (by omega) (by show 1 ≤ _; omega) (by simp; omega) ?_; intro aa cap w1 ho hg hat; have K1 := Lib.hid (And.intro ho (And.intro hg hat)); clear ho hg hat)
        go_roundw
        case rel =>
          obtain ⟨ho, hg, hat⟩ := K1.out
          obtain ⟨hy, hc2, hk2⟩ := HY.out
          refine ⟨k2, c2, pre ++ [y], ⟨aa, q + 1, cap⟩, ?_, by omega, by have h1 := HB.out.2; omega, by rw [ek.out], by rw [e2.out], rfl, by simp [HQ.out], by rw [bys_append]; exact ho, ?_⟩
          · rw [HE.out, enc_big (by omega), show (cc + 128 * k) % 128 + 128 = y by omega, show (cc + 128 * k) / 128 = c2 + 128 * k2 by omega]
            simp
          · exact (HK.out.next ((Keeps.refl none' wr).alloc _)).grown hg (fun g hgl e => by have := (own_lt HO.out g e).1; omega)
        case measure => exact meas128 hz
      · obtain rfl : k = 0 := by omega
        have wy : IntKind.u8.wrap (cc : Int) = (cc : Int) := by simp [IntKind.wrap, IntKind.bits, IntKind.signed]; omega
        have NW := Lib.hid (cells_new 1 wr #[.int .u8 (cc : Int)] 5 1 1 (bys [cc]) rfl rfl (Nat.le_refl _) (bys_one _))
        have WA := Lib.hid (own_kept HO.out (w' := wr.alloc (.cells #[.int .u8 (cc : Int)] 5)) (fun g hg => Below.heap_alloc _ _ _ (own_lt HO.out g hg).2))
        go_wp2_with (at_builtin; refine wpList_append_row rfl 29 5 _ _ rfl i0 _ 1 1 Try.underlying29 hi hz0 hz1 hz2 rfl (by decide) (by decide) w.heap.size q (.slice a q c) _ rfl WA.out ⟨some ⟨wr.heap.size, 0, none⟩, 1, 1⟩ _ rfl NW.out (by omega) (by show 1 ≤ _; omega) (by simp; omega) ?_; intro aa cap w1 ho hg hat; have K1 := Lib.hid (And.intro ho (And.intro hg hat)); clear ho hg hat)
        go_ret
        obtain ⟨ho, hg, hat⟩ := K1.out
        have eZ : enc Z = pre ++ [cc] := by rw [HE.out, show cc + 128 * 0 = cc by omega, enc_small HB.out.1]
        refine ⟨⟨aa, q + 1, cap⟩, rfl, by rw [eZ]; simp [HQ.out], by rw [eZ, bys_append]; exact ho, ?_⟩
        exact (HK.out.next ((Keeps.refl none' wr).alloc _)).grown hg (fun g hgl e => by have := (own_lt HO.out g e).1; omega)
  · obtain ⟨c1, hc1⟩ : ∃ c1, c1 = 2 * (m % 64) + 1 := ⟨_, rfl⟩
    have e5 : (m : Int) % 64 * 2 + 1 = (c1 : Int) := by omega
    have HH := Lib.hid (show enc Z = [] ++ enc (c1 + 128 * m1) ∧ c1 < 128 ∧ m1 < 9223372036854775808 from ⟨by rw [List.nil_append]; congr 1; omega, by omega, by omega⟩)
    have hb : decide (n < 0) = true := by simpa using h0
    have wm : wrap64 (-1 - n) = (m : Int) := by unfold wrap64; omega
    clear hm hZ hc1 hm1 hm2
    go_enter Try.func15, Try.ntmps15
    go_wp2_with fail
    simp only [e0, e5]
    clear e0 e5 hb wm h0
    go_loopw [0, 3, 5] (fun r o cv wr => ∃ (k cc : Nat) (pre : List Nat) (hd : Hd), enc Z = pre ++ enc (cc + 128 * k) ∧ cc < 128 ∧ k < 9223372036854775808 ∧ r = .int .i64 k ∧ cv = .int .i64 cc ∧ o = .slice hd.a hd.n hd.c ∧ pre.length = hd.n ∧ wr.ownsRow w.heap.size 5 1 (.slice hd.a hd.n hd.c) hd.n (bys pre) ∧ Keeps none' w wr) (fun r _ _ _ => (intOf r).toNat)
    case atStart => exact ⟨m1, c1, [], Hd.nil, HH.out.1, HH.out.2.1, HH.out.2.2, rfl, rfl, rfl, rfl, ⟨rfl, .inl ⟨rfl, rfl⟩⟩, Keeps.refl _ _⟩
    case round =>
      obtain ⟨k, cc, pre, ⟨a, q, c⟩, he, hc, hk, rfl, rfl, rfl, hq, ho, hK⟩ := hrel
      simp only at hq
      have HE := Lib.hid he
      have HB := Lib.hid (And.intro hc hk)
      have HO := Lib.hid ho
      have HK := Lib.hid hK
      have hq2 : q ≤ 10 := by have h1 := HL.out; rw [he] at h1; simp only [List.length_append] at h1; omega
      have HQ := Lib.hid hq
      have hsz : w.heap.size ≤ wr.heap.size := hK.size
      clear he ho hK hq hk
      simp only
      by_cases hz : 0 < k
      · obtain ⟨y, hy⟩ : ∃ y, y = cc + 128 := ⟨_, rfl⟩
        have wy : IntKind.u8.wrap ((cc : Int) + 128) = (y : Int) := by simp [IntKind.wrap, IntKind.bits, IntKind.signed]; omega
        obtain ⟨c2, hc2⟩ : ∃ c2, c2 = k % 128 := ⟨_, rfl⟩
        obtain ⟨k2, hk2⟩ : ∃ k2, k2 = k / 128 := ⟨_, rfl⟩
        have ek := Lib.hid (show (k : Int) / 128 = (k2 : Int) by omega)
        have hk' : k ≤ 9223372036854775807 := by have := HB.out.2; omega
        have HY := Lib.hid (And.intro hy (And.intro hc2 hk2))
        have e2 := Lib.hid (show (k : Int) % 128 = (c2 : Int) by omega)
        have NW := Lib.hid (cells_new 1 wr #[.int .u8 (y : Int)] 5 1 1 (bys [y]) rfl rfl (Nat.le_refl _) (bys_one _))
        have WA := Lib.hid (own_kept HO.out (w' := wr.alloc (.cells #[.int .u8 (y : Int)] 5)) (fun g hg => Below.heap_alloc _ _ _ (own_lt HO.out g hg).2))
        clear hy hc2 hk2
        go_wp2_with (at_builtin; refine wpList_append_row rfl 29 5 _ _ rfl i0 _ 1 1 Try.underlying29 hi hz0 hz1 hz2 rfl (by decide) (by decide) w.heap.size q (.slice a q c) _ rfl WA.out ⟨some ⟨wr.heap.size, 0, none⟩, 1, 1⟩ _ rfl NW.out (by omega) (by show 1 ≤ _; omega) (by simp; omega) ?_; intro aa cap w1 ho hg hat; have K1 := Lib.hid (And.intro ho (And.intro hg hat)); clear ho hg hat)
        go_roundw
        case rel =>
          obtain ⟨ho, hg, hat⟩ := K1.out
          obtain ⟨hy, hc2, hk2⟩ := HY.out
          refine ⟨k2, c2, pre ++ [y], ⟨aa, q + 1, cap⟩, ?_, by omega, by have h1 := HB.out.2; omega, by rw [ek.out], by rw [e2.out], rfl, by simp [HQ.out], by rw [bys_append]; exact ho, ?_⟩
          · rw [HE.out, enc_big (by omega), show (cc + 128 * k) % 128 + 128 = y by omega, show (cc + 128 * k) / 128 = c2 + 128 * k2 by omega]
            simp
          · exact (HK.out.next ((Keeps.refl none' wr).alloc _)).grown hg (fun g hgl e => by have := (own_lt HO.out g e).1; omega)
        case measure => exact meas128 hz
      · obtain rfl : k = 0 := by omega
        have wy : IntKind.u8.wrap (cc : Int) = (cc : Int) := by simp [IntKind.wrap, IntKind.bits, IntKind.signed]; omega
        have NW := Lib.hid (cells_new 1 wr #[.int .u8 (cc : Int)] 5 1 1 (bys [cc]) rfl rfl (Nat.le_refl _) (bys_one _))
        have WA := Lib.hid (own_kept HO.out (w' := wr.alloc (.cells #[.int .u8 (cc : Int)] 5)) (fun g hg => Below.heap_alloc _ _ _ (own_lt HO.out g hg).2))
        go_wp2_with (at_builtin; refine wpList_append_row rfl 29 5 _ _ rfl i0 _ 1 1 Try.underlying29 hi hz0 hz1 hz2 rfl (by decide) (by decide) w.heap.size q (.slice a q c) _ rfl WA.out ⟨some ⟨wr.heap.size, 0, none⟩, 1, 1⟩ _ rfl NW.out (by omega) (by show 1 ≤ _; omega) (by simp; omega) ?_; intro aa cap w1 ho hg hat; have K1 := Lib.hid (And.intro ho (And.intro hg hat)); clear ho hg hat)
        go_ret
        obtain ⟨ho, hg, hat⟩ := K1.out
        have eZ : enc Z = pre ++ [cc] := by rw [HE.out, show cc + 128 * 0 = cc by omega, enc_small HB.out.1]
        refine ⟨⟨aa, q + 1, cap⟩, rfl, by rw [eZ]; simp [HQ.out], by rw [eZ, bys_append]; exact ho, ?_⟩
        exact (HK.out.next ((Keeps.refl none' wr).alloc _)).grown hg (fun g hgl e => by have := (own_lt HO.out g e).1; omega)
end Go.Proofs.Ytcdhpidglchinaa
