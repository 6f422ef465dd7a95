/- One to thirty-two bits in a row turned: the walk of SumsFlip. -/
import Derived.Test.YtfidconibclehaaDoorK
namespace Go.Proofs.YtfidconibclehaaDoor
open Go.RowKit
set_option linter.unusedVariables false

theorem flip_out (a : Option Addr) (n c : Nat) (t v : Int) (w : World) (hF : Fours w) (h : 3000 < n ∨ t < 0 ∨ 8 * (n : Int) ≤ t ∨ v < 1 ∨ 4294967296 ≤ v) : Calls Tryd.prog 6 #[.slice a n c, .int .i64 t, .int .i64 v] w (Yes w) := by
  have A := Lib.hid (anchor_any w hF)
  clear hF
  by_cases h0 : 3000 < n
  · have t0 : decide ((3000 : Int) < n) = true := by simp; omega
    go_enter Tryd.func6, Tryd.ntmps6
    go_wp2_with fail
    refine A.out.mono ?_
    rintro e w1 ⟨rfl, hk⟩
    have HK := Lib.hid hk
    clear hk
    go_wp2_with fail
    go_ret
    exact ⟨rfl, HK.out⟩
  · have t0 : decide ((3000 : Int) < n) = false := by simp; omega
    by_cases h1 : t < 0
    · have t1 : decide (t < 0) = true := by simpa using h1
      go_enter Tryd.func6, Tryd.ntmps6
      go_wp2_with fail
      refine A.out.mono ?_
      rintro e w1 ⟨rfl, hk⟩
      have HK := Lib.hid hk
      clear hk
      go_wp2_with fail
      go_ret
      exact ⟨rfl, HK.out⟩
    · have t1 : decide (t < 0) = false := by simpa using h1
      by_cases h2 : 8 * (n : Int) ≤ t
      · have t2 : decide (8 * (n : Int) ≤ t) = true := by simpa using h2
        go_enter Tryd.func6, Tryd.ntmps6
        go_wp2_with fail
        refine A.out.mono ?_
        rintro e w1 ⟨rfl, hk⟩
        have HK := Lib.hid hk
        clear hk
        go_wp2_with fail
        go_ret
        exact ⟨rfl, HK.out⟩
      · have t2 : decide (8 * (n : Int) ≤ t) = false := by simpa using h2
        by_cases h3 : v < 1
        · have t3 : decide (v < 1) = true := by simpa using h3
          go_enter Tryd.func6, Tryd.ntmps6
          go_wp2_with fail
          refine A.out.mono ?_
          rintro e w1 ⟨rfl, hk⟩
          have HK := Lib.hid hk
          clear hk
          go_wp2_with fail
          go_ret
          exact ⟨rfl, HK.out⟩
        · have t3 : decide (v < 1) = false := by simpa using h3
          have t4 : decide (4294967296 ≤ v) = true := by simp; omega
          go_enter Tryd.func6, Tryd.ntmps6
          go_wp2_with fail
          refine A.out.mono ?_
          rintro e w1 ⟨rfl, hk⟩
          have HK := Lib.hid hk
          clear hk
          go_wp2_with fail
          go_ret
          exact ⟨rfl, HK.out⟩

theorem Part.turn {w : World} {g n i y : Nat} {zs : List Nat} (h : Part w g n n zs) (hi : i < n) (hl : zs.length = n) : Part (w.setCell ⟨g, i, none⟩ (.int .u8 (y : Int))) g n n (zs.set i y) := by
  obtain ⟨cur, h1, h2, h3⟩ := h
  refine ⟨cur.setIfInBounds i (.int .u8 (y : Int)), ?_, by simpa using h2, fun j z hj hz => ?_⟩
  · simp only [World.setCell, Array.getElem?_modify, h1]
    simp
  · by_cases e : i = j
    · subst e
      rw [List.getElem?_set_self (by omega)] at hz
      cases hz
      rw [Array.getElem?_setIfInBounds_self_of_lt (by omega)]
    · rw [List.getElem?_set_ne e] at hz
      rw [Array.getElem?_setIfInBounds_ne e]
      exact h3 j z hj hz
theorem own_part {w : World} {B n c : Nat} {aa : Option Addr} {ds : List Nat} (h : w.ownsRow B 5 1 (.slice aa n c) n (bys ds)) (hp : 0 < n) : ∃ g, aa = some ⟨g, 0, none⟩ ∧ B ≤ g ∧ n ≤ c ∧ Part w g n n ds := by
  obtain ⟨hl, h2⟩ := h
  rcases h2 with ⟨_, e2⟩ | ⟨g, cap, cur, e, hB, hh, p1, p2, p3, p4⟩
  · omega
  · cases e
    refine ⟨g, rfl, hB, p1, cur, hh, by omega, fun j y hj hy => ?_⟩
    have hj2 : (bys ds)[j]? = (cur.toList.take (n * 1))[j]? := by rw [p4]
    unfold bys at hj2
    rw [List.getElem?_take_of_lt (by omega), List.getElem?_map, hy] at hj2
    simpa using hj2.symm

/-- What is turned so far. -/
structure Turned (w0 : World) (B g n : Nat) (ys : List Nat) (t v k : Nat) (w : World) : Prop where
  row : ∃ zs : List Nat, zs.length = n ∧ (∀ z ∈ zs, z < 256) ∧ Sums.num zs = Sums.num ys ^^^ (v % 2 ^ k) * 2 ^ t ∧ Part w g n n zs
  below : Below B w0 w
theorem Turned.skip {w0 w : World} {B g n t v k : Nat} {ys : List Nat} (h : Turned w0 B g n ys t v k w) (hb : v / 2 ^ k % 2 = 0) : Turned w0 B g n ys t v (k + 1) w := by
  obtain ⟨⟨zs, h1, h2, h3, h4⟩, h5⟩ := h
  refine ⟨⟨zs, h1, h2, ?_, h4⟩, h5⟩
  rw [Sums.turn_more, hb, if_neg (by omega), Nat.xor_zero]
  exact h3
theorem Turned.drew {w0 w : World} {B g n t v k : Nat} {ys : List Nat} (h : Turned w0 B g n ys t v k w) : Turned w0 B g n ys t v k w.drew := ⟨h.row, below_drew h.below⟩
theorem Turned.bit {w0 w : World} {B g n t v k q r : Nat} {ys : List Nat} (h : Turned w0 B g n ys t v k w) (hg : B ≤ g) (hb : v / 2 ^ k % 2 = 1) (hq : t + k = 8 * q + r) (hr : r < 8) (hqn : q < n) :
    ∃ y : Nat, y < 256 ∧ w.cell? ⟨g, q, none⟩ = some (.int .u8 (y : Int)) ∧ w.frozen? ⟨g, q, none⟩ = false ∧ Turned w0 B g n ys t v (k + 1) (w.setCell ⟨g, q, none⟩ (.int .u8 ((y ^^^ 2 ^ r : Nat) : Int))) := by
  obtain ⟨⟨zs, h1, h2, h3, h4⟩, h5⟩ := h
  have hl : q < zs.length := by omega
  obtain ⟨old, hold, hfr⟩ := h4.cell hqn
  obtain ⟨cur, k1, k2, k3⟩ := h4
  have hc := k3 q zs[q] hqn (List.getElem?_eq_getElem hl)
  have hy := h2 _ (List.getElem_mem hl)
  have hp : 2 ^ r < 2 ^ 8 := Nat.pow_lt_pow_right (by omega) hr
  refine ⟨zs[q], hy, by simp [World.cell?, k1, hc], hfr, ⟨zs.set q (zs[q] ^^^ 2 ^ r), by simpa using h1, ?_, ?_, ?_⟩, below_set h5 hg _⟩
  · intro z hz
    rcases List.mem_or_eq_of_mem_set hz with hz | rfl
    · exact h2 z hz
    · exact Nat.xor_lt_two_pow (n := 8) hy hp
  · rw [Sums.num_turn zs q r hl, h3, Sums.turn_more, hb, if_pos rfl, Nat.xor_assoc, hq]
  · exact Part.turn ⟨cur, k1, k2, k3⟩ hqn h1

set_option maxRecDepth 100000 in
set_option maxHeartbeats 1600000 in
theorem flip_good (a : Option Addr) (n c : Nat) (ys : List Nat) (t v : Nat) (w : World) (hF : Fours w) (h0 : n ≤ 3000) (ht : t < 8 * n) (hv0 : 1 ≤ v) (hv : v < 4294967296) (hy : Arg w a n c ys) : Calls Tryd.prog 6 #[.slice a n c, .int .i64 t, .int .i64 v] w (Yes w) := by
  have A := Lib.hid (anchor_any w hF)
  have HF := Lib.hid hF
  have HY := Lib.hid hy
  have t0 : decide ((3000 : Int) < n) = false := by simp; omega
  have t2 : decide (8 * (n : Int) ≤ (t : Int)) = false := by simp; omega
  have t3 : decide ((v : Int) < 1) = false := by simp; omega
  have t4 : decide (4294967296 ≤ (v : Int)) = false := by simp; omega
  clear hF hy
  go_enter Tryd.func6, Tryd.ntmps6
  go_wp2_with fail
  refine A.out.mono ?_
  rintro e w1 ⟨rfl, hk⟩
  have HY1 := Lib.hid ((HY.out.below hk).1.later (w' := w1.alloc (.cells #[] 5)) (fun k hk => Below.heap_alloc _ _ _ hk))
  have HK := Lib.hid hk
  have hw1 : w.heap.size ≤ w1.heap.size := hk.size
  have OW := Lib.hid (show (w1.alloc (.cells #[] 5)).ownsRow w.heap.size 5 1 (.slice (some ⟨w1.heap.size, 0, none⟩) 0 0) 0 (bys []) from World.ownsRow_made (base := w.heap.size) (e := 5) (size := 1) w1 #[] 0 hw1 (Nat.zero_le _) (by simp))
  clear hk
  go_wp2_with (at_builtin; go_must (refine wpList_append_text rfl (.tmp 33) (.tmp 34) rfl w.heap.size 0 (.slice (some ⟨w1.heap.size, 0, none⟩) 0 0) [] rfl ?e1 a n c ys rfl ?e2 HY.out.2.2 (by omega) (by omega) ?e3 ?e4))
  case e1 => exact OW.out
  case e2 => exact HY1.out
  case e3 => simp; omega
  case e4 =>
    intro aa cap w2 hown hg hat
    have hb2 : Below w.heap.size w w2 := grown_below (Nat.le_refl _) (HK.out.alloc hw1 _) hg (fun k e => by simp [Value.ownBlock] at e; omega)
    obtain ⟨g, rfl, hgB, hcap, hpart⟩ := own_part hown (by omega)
    have T0 := Lib.hid (show Turned w w.heap.size g n ys t v 0 w2 from ⟨⟨ys, HY.out.1.1, HY.out.1.2.1, by rw [Nat.pow_zero, Nat.mod_one, Nat.zero_mul, Nat.xor_zero], hpart⟩, hb2⟩)
    clear hown hg hat hb2 hpart
    go_wp2_with fail
    go_loopw [1, 8] (fun x cnt wr => ∃ k : Nat, k ≤ 32 ∧ cnt = .int .i64 k ∧ x = .int .i64 ((t + k : Nat) : Int) ∧ Turned w w.heap.size g n ys t v k wr) (fun _ cnt _ => 32 - (intOf cnt).toNat)
    case atStart => exact ⟨0, Nat.zero_le _, rfl, rfl, T0.out⟩
    case round =>
      obtain ⟨k, hk, rfl, rfl, hT⟩ := hrel
      by_cases hk32 : k < 32
      · have hm : (v : Int) / 2 ^ k = ((v / 2 ^ k : Nat) : Int) := by simp
        have hml : v / 2 ^ k ≤ v := Nat.div_le_self _ _
        have hb := i64_low (v / 2 ^ k) (by omega)
        have hskip := fun h => hT.skip h
        have hbit := fun q r h1 h2 h3 h4 => Turned.bit (q := q) (r := r) hT hgB h1 h2 h3 h4
        have hbw := hT.below
        generalize v / 2 ^ k = m at *
        have HSK := Lib.hid hskip
        have HBI := Lib.hid hbit
        have HBW := Lib.hid hbw
        clear hT hskip hbit hbw
        rcases Nat.mod_two_eq_zero_or_one m with e2 | e2
        · rw [e2] at hb
          have X := Lib.hid (HSK.out e2)
          clear e2
          go_wp2_with fail
          go_roundw
          case rel => exact ⟨k + 1, by omega, by go_num, by simp only [Int.natCast_add]; congr 1, X.out⟩
          case measure => simp [intOf]; omega
        · rw [e2] at hb
          obtain ⟨A, hA⟩ : ∃ A, A = t + k := ⟨_, rfl⟩
          rw [← hA]
          have eq : (A : Int) / 8 = ((A / 8 : Nat) : Int) := by omega
          have er : (A : Int) % 8 = ((A % 8 : Nat) : Int) := by omega
          have em : (A : Int).tmod 8 = ((A % 8 : Nat) : Int) := by rw [Int.tmod_eq_emod_of_nonneg (by omega)]; omega
          have hr : A % 8 < 8 := Nat.mod_lt _ (by omega)
          by_cases hqn : A / 8 < n
          · obtain ⟨y, hy8, hc, hfr, hX⟩ := HBI.out (A / 8) (A % 8) e2 (by omega) hr hqn
            have hp : 2 ^ (A % 8) < 2 ^ 8 := Nat.pow_lt_pow_right (by omega) hr
            have hxr : bits .xor .u8 (y : Int) (IntKind.u8.wrap (2 ^ (A % 8))) = ((y ^^^ 2 ^ (A % 8) : Nat) : Int) := by
              have e : IntKind.u8.wrap (2 ^ (A % 8)) = ((2 ^ (A % 8) : Nat) : Int) := by
                have e2 : (2 : Int) ^ (A % 8) = ((2 ^ (A % 8) : Nat) : Int) := by simp
                rw [e2, IntKind.wrap_u8']
                clear e2
                generalize 2 ^ (A % 8) = p2 at *
                omega
              rw [e]
              exact u8_xor_nat y (2 ^ (A % 8)) hy8 (by omega)
            have X := Lib.hid hX
            have HAt := Lib.hid hA
            have t5 : decide ((n : Int) ≤ ((A / 8 : Nat) : Int)) = false := by simp; omega
            generalize A / 8 = q at *
            generalize A % 8 = r at *
            generalize y ^^^ 2 ^ r = z at *
            have hqi : (q : Int) < (n : Int) := by omega
            have hwq : IntKind.i64.wrap (q : Int) = q := wrap_i64 _ (by omega) (by omega)
            have hwr : IntKind.i64.wrap (r : Int) = r := wrap_i64 _ (by omega) (by omega)
            clear hX hA
            go_wp2
            go_still_tail 10, (by kernel_rfl)
            change wpList _ _ _ _ _ wr.drew
            go_wp2_with fail
            go_roundw
            case rel => exact ⟨k + 1, by omega, by go_num, by rw [← Nat.add_assoc, ← HAt.out]; simp, X.out.drew⟩
            case measure => simp [intOf]; omega
          · have t5 : decide ((n : Int) ≤ ((A / 8 : Nat) : Int)) = true := by simp; omega
            generalize A / 8 = q at *
            go_wp2_with fail
            go_ret
            exact ⟨rfl, HBW.out⟩
      · obtain rfl : k = 32 := by omega
        have hk1 := hT.below
        obtain ⟨⟨zs, hzl, hzb, hzn, hzp⟩, _⟩ := hT
        rw [show v % 2 ^ 32 = v from Nat.mod_eq_of_lt hv] at hzn
        have hne := Sums.crc_burst ys zs (by rw [HY.out.1.1, hzl]) v t hv (by omega) (by rw [HY.out.1.1]; omega) hzn
        have hP := hzp.bytes hzl hzb
        have HP := Lib.hid (show Arg wr (some ⟨g, 0, none⟩) n cap zs from ⟨hP.1, hcap, fun e => by cases e⟩)
        have HK1 := Lib.hid hk1
        have C1 := Lib.hid (crc_lone wr a n c ys (by omega) (HY.out.below hk1) (HF.out.below hk1))
        have hdne : ((Sums.crc ys : Nat) : Int) ≠ (Sums.crc zs : Nat) := by omega
        clear hP hzp hzn hzb hzl hk1 hne
        generalize Sums.crc ys = x at *
        go_wp2_with fail
        refine C1.out.mono ?_
        rintro e w3 ⟨rfl, hb3⟩
        have K3 := Lib.hid (below_more HK1.out hb3 (Nat.le_refl _))
        have C2 := Lib.hid (crc_lone w3 _ n cap zs (by omega) (HP.out.below hb3) (HF.out.below K3.out))
        clear hb3
        generalize Sums.crc zs = z at *
        have hd : ((x : Int) != (z : Int)) = true := by simpa using hdne
        clear hdne
        go_wp2_with fail
        refine C2.out.mono ?_
        rintro e w4 ⟨rfl, hb4⟩
        have K4 := Lib.hid (below_more K3.out hb4 (Nat.le_refl _))
        clear hb4
        go_wp2_with fail
        go_ret
        exact ⟨rfl, K4.out⟩
end Go.Proofs.YtfidconibclehaaDoor
