/- What is written High is what is written Low, turned round: the walk of the law. -/
import Derived.Test.YteeapkbmlhlhjaaBack
namespace Go.Proofs.Yteeapkbmlhlhjaa
open Go.RowKit

/-- The row behind the first i numbers, each turned round for the one that writes High. -/
def turned (xs : List Num) : Nat → List Bool
  | 0 => []
  | i + 1 => match xs[i]? with
    | some x => if fits x.V x.N = true ∧ x.F = false then turned xs i ++ lowr x.V.toNat x.N.toNat else turned xs i
    | none => turned xs i
theorem turned_succ {xs : List Num} {i : Nat} {x : Num} (h : xs[i]? = some x) : turned xs (i + 1) = if fits x.V x.N = true ∧ x.F = false then turned xs i ++ lowr x.V.toNat x.N.toNat else turned xs i := by simp [turned, h]
theorem turned_length (xs : List Num) (i : Nat) : (turned xs i).length ≤ 24 * i := by
  induction i with
  | zero => simp [turned]
  | succ i ih =>
    simp only [turned]
    cases h : xs[i]? with
    | none => simp only; omega
    | some x =>
      simp only
      split
      · rename_i hc
        have := hc.1
        simp only [fits, decide_eq_true_eq] at this
        rw [List.length_append, lowr_length]
        omega
      · omega

theorem lowr_snoc (v k : Nat) : lowr v (k + 1) = lowr v k ++ [decide (v / 2 ^ k % 2 = 1)] := by
  induction k generalizing v with
  | zero => simp [lowr]
  | succ k ih =>
    rw [lowr, ih, lowr, List.cons_append]
    rw [Nat.div_div_eq_div_mul, Nat.pow_succ, Nat.mul_comm 2]
theorem turn_more (v k : Nat) : val true (lowr v (k + 1)) = 2 * val true (lowr v k) + v / 2 ^ k % 2 := by
  rw [lowr_snoc, high_append]
  have e : val true [decide (v / 2 ^ k % 2 = 1)] = v / 2 ^ k % 2 := by
    rcases (show v / 2 ^ k % 2 = 0 ∨ v / 2 ^ k % 2 = 1 by omega) with h | h <;> simp [h, val, lowv]
  rw [e]
  simp only [List.length_singleton, Nat.pow_one]
  omega
theorem turn_lt (v k : Nat) : val true (lowr v k) < 2 ^ k := by
  have h := val_lt true (lowr v k)
  rw [lowr_length] at h
  exact h
theorem turn_put (L : List Bool) (v n : Nat) (hn : n ≤ 24) : fits (val true (lowr v n) : Nat) n = true ∧ put true L (val true (lowr v n) : Nat) n = L ++ lowr v n := by
  have h := turn_lt v n
  have e : fits (val true (lowr v n) : Nat) n = true := by simp only [fits, decide_eq_true_eq, Int.toNat_natCast]; omega
  refine ⟨e, ?_⟩
  simp only [put, e, if_true, Int.toNat_natCast]
  have k := row_val true (lowr v n)
  rw [lowr_length] at k
  rw [k]
theorem turn_byte (L : List Bool) (i : Nat) : val true (lowr (byteAt false L i) 8) = byteAt true L i := by
  have h1 := row_byteOf false ((L.drop (8 * i)).take 8) (by simp; omega)
  have h2 := row_byteOf true ((L.drop (8 * i)).take 8) (by simp; omega)
  have h3 : lowr (byteAt false L i) 8 = row true (byteAt true L i) 8 := h1.trans h2.symm
  rw [h3, val_row (byteAt_lt true L i)]

theorem i64_bit (v k : Nat) (hv : v < 9223372036854775808) : bits .and .i64 ((v : Int) / 2 ^ k) 1 = ((v / 2 ^ k % 2 : Nat) : Int) := by
  have h : v / 2 ^ k ≤ v := Nat.div_le_self _ _
  rw [two_pow_cast, ← Int.natCast_ediv, show (1 : Int) = ((1 : Nat) : Int) by rfl, i64_and_nat _ _ (by omega) (by omega), Nat.and_one_is_mod]
theorem u8_bit (v k : Nat) (hv : v < 256) : bits .and .u8 ((v : Int) / 2 ^ k) 1 = ((v / 2 ^ k % 2 : Nat) : Int) := by
  have h : v / 2 ^ k ≤ v := Nat.div_le_self _ _
  rw [two_pow_cast, ← Int.natCast_ediv, show (1 : Int) = ((1 : Nat) : Int) by rfl, u8_and_nat _ _ (by omega) (by omega), Nat.and_one_is_mod]

set_option maxRecDepth 100000 in
set_option maxHeartbeats 4000000 in
theorem turned_long (a0 : Option Addr) (len0 cap0 : Nat) (w : World) (h : 200 < len0) :
    Calls Try.prog 6 #[.slice a0 len0 cap0] w (Yes w) := by
  have A := Lib.hid (anchor_any w)
  have t0 : decide ((200 : Int) < len0) = true := by simp; omega
  go_enter Try.func6, Try.ntmps6
  go_wp2_with fail
  refine A.out.mono ?_
  rintro e w1 ⟨rfl, hk⟩
  go_wp2_with fail
  go_ret
  exact ⟨rfl, hk⟩

set_option maxRecDepth 100000 in
set_option maxHeartbeats 4000000 in
theorem turned_good (a0 : Option Addr) (len0 cap0 : Nat) (xs : List Num) (w : World) (h0 : len0 ≤ 200) (hn0 : Nums w a0 len0 cap0 xs) :
    Calls Try.prog 6 #[.slice a0 len0 cap0] w (Yes w) := by
  have A := Lib.hid (anchor_any w)
  have N0 := Lib.hid hn0
  have t0 : decide ((200 : Int) < len0) = false := by simp; omega
  clear hn0
  go_enter Try.func6, Try.ntmps6
  go_wp2_with fail
  refine A.out.mono ?_
  rintro e w1 ⟨rfl, hk⟩
  have C1 := Lib.hid (new_st hk false)
  clear hk
  go_wp2_with fail
  refine C1.out.mono ?_
  rintro e w2 ⟨rfl, h2⟩
  have C2 := Lib.hid (new_two h2 true)
  clear h2
  go_wp2_with fail
  refine C2.out.mono ?_
  rintro e w3 ⟨rfl, h3⟩
  have H3 := Lib.hid h3
  clear h3
  go_wp2_with fail
  go_loopw [30] (fun cnt wr => ∃ i : Nat, i ≤ len0 ∧ cnt = .int .i64 i ∧ Two w w1.heap.size false (turned xs i) w2.heap.size true (turned xs i) wr) (fun cnt _ => len0 - (intOf cnt).toNat)
  case atStart => exact ⟨0, Nat.zero_le _, rfl, H3.out⟩
  case round =>
    obtain ⟨i, hi, rfl, h⟩ := hrel
    have HL := Lib.hid (show (turned xs i).length ≤ 16777216 by have := turned_length xs i; omega)
    by_cases hlt : i < len0
    · obtain ⟨x, hx⟩ : ∃ x, xs[i]? = some x := ⟨_, List.getElem?_eq_getElem (by rw [N0.out.2.2.1]; exact hlt)⟩
      obtain ⟨b, off, rfl, c0, c1, c2, cv, cn⟩ := (N0.out.later (fun k hk => h.keeps.block k hk (fun h => h))).2.2.2 i x hx
      have HX := Lib.hid (turned_succ hx)
      have HA := Lib.hid (h.alloc #[.int .i64 x.V, .int .i64 x.N, .bool x.F] 27)
      have CR := Lib.hid (right_below (wr.alloc (.cells #[.int .i64 x.V, .int .i64 x.N, .bool x.F] 27)) x.V x.N x.F)
      clear h hx
      go_wp2_with fail
      refine CR.out.mono ?_
      rintro e w4 ⟨rfl, hb4⟩
      have H4 := Lib.hid (HA.out.below hb4)
      have p0 : w4.cell? ⟨wr.heap.size, 0, none⟩ = some (.int .i64 x.V) := by have hp := H4.out.pin; simp [World.cell?, hp]
      have p1 : w4.cell? ⟨wr.heap.size, 1, none⟩ = some (.int .i64 x.N) := by have hp := H4.out.pin; simp [World.cell?, hp]
      have p2 : w4.cell? ⟨wr.heap.size, 2, none⟩ = some (.bool x.F) := by have hp := H4.out.pin; simp [World.cell?, hp]
      clear hb4
      cases hf : fits x.V x.N
      · go_wp2_with fail
        go_roundw
        case rel => exact ⟨i + 1, by omega, by go_num, by rw [HX.out, if_neg (by rw [hf]; simp)]; exact H4.out.two⟩
        case measure => simp [intOf]; omega
      · cases hF : x.F
        · rw [hF] at p2
          have hnn : ∃ v n : Nat, x.V = (v : Int) ∧ x.N = (n : Int) ∧ n ≤ 24 ∧ v < 16777216 := by
            have := hf
            simp only [fits, decide_eq_true_eq] at this
            have hp : 2 ^ x.N.toNat ≤ 2 ^ 24 := Nat.pow_le_pow_right (by omega) (by omega)
            exact ⟨x.V.toNat, x.N.toNat, by omega, by omega, by omega, by omega⟩
          obtain ⟨v, n, hv, hn, hn24, hv24⟩ := hnn
          have hx1 := HX.out
          rw [if_pos ⟨hf, hF⟩, hv, hn, Int.toNat_natCast, Int.toNat_natCast] at hx1
          rw [hv] at p0
          rw [hn] at p1
          have CA := put_twoP H4.out HL.out v n
          have ef : fits v n = true := by rw [← hv, ← hn]; exact hf
          rw [ef, show put false (turned xs i) v n = turned xs i ++ lowr v n by simp [put, ef, row]] at CA
          have CA := Lib.hid CA
          have HX1 := Lib.hid hx1
          have HN := Lib.hid hn
          clear hv hn hf hF hx1 ef
          obtain ⟨wo, rfl⟩ : ∃ wo : World, wo = wr := ⟨_, rfl⟩
          go_wp2_with fail
          go_loopw [7, 8] (fun tv k wl => ∃ j : Nat, j ≤ n ∧ k = .int .i64 j ∧ tv = .int .i64 (val true (lowr v j) : Nat) ∧ wl = w4) (fun _ k _ => n - (intOf k).toNat)
          case atStart => exact ⟨0, Nat.zero_le _, rfl, rfl, rfl⟩
          case round =>
            obtain ⟨j, hj, rfl, rfl, rfl⟩ := hrel
            by_cases hjn : j < n
            · have hE := i64_bit v j (by omega)
              have hb1 : v / 2 ^ j % 2 ≤ 1 := by omega
              have HT := Lib.hid (turn_more v j)
              have hT : val true (lowr v j) < 16777216 := by
                have h1 := turn_lt v j
                have h2 : 2 ^ j ≤ 2 ^ 24 := Nat.pow_le_pow_right (by omega) (by omega)
                omega
              generalize v / 2 ^ j % 2 = bt at *
              generalize val true (lowr v j) = T at *
              go_wp2_with fail
              go_roundw
              case rel => exact ⟨j + 1, by omega, by go_num, by rw [HT.out]; simp, trivial⟩
              case measure => simp [intOf]; omega
            · obtain rfl : j = n := by omega
              have HT := Lib.hid (turn_put (turned xs i) v j hn24)
              go_wp2_with fail
              refine CA.out.mono ?_
              rintro e w5 ⟨rfl, h5⟩
              have hp := h5.pin
              have q1 : w5.cell? ⟨wo.heap.size, 1, none⟩ = some (.int .i64 j) := by rw [← HN.out]; simp [World.cell?, hp]
              have CB := put_twoP h5.swap HL.out (val true (lowr v j) : Nat) j
              rw [HT.out.1, HT.out.2] at CB
              have CB := Lib.hid CB
              clear h5 hp
              generalize val true (lowr v j) = T at *
              go_wp2_with fail
              refine CB.out.mono ?_
              rintro e w6 ⟨rfl, h6⟩
              have X := Lib.hid h6.swap.two
              clear h6
              go_wp2_with fail
              go_roundw
              case rel => exact ⟨i + 1, by omega, by go_num, by rw [HX1.out]; exact X.out⟩
              case measure => simp [intOf]; omega
        · rw [hF] at p2
          go_wp2_with fail
          go_roundw
          case rel => exact ⟨i + 1, by omega, by go_num, by rw [HX.out, if_neg (by rw [hF]; simp)]; exact H4.out.two⟩
          case measure => simp [intOf]; omega
    · obtain rfl : i = len0 := by omega
      generalize turned xs i = L at *
      have CA := Lib.hid (bytes_st h.st HL.out)
      have H := Lib.hid h
      clear h
      go_wp2_with fail
      refine CA.out.mono ?_
      rintro e w4 ⟨a1, c1, rfl, hown1, hbel1⟩
      have H4 := H.out.below hbel1
      have CB := Lib.hid (bytes_st H4.swap.st HL.out)
      have HO1 := Lib.hid hown1
      have HB1 := Lib.hid hbel1
      clear hown1 hbel1 H4
      go_wp2_with fail
      refine CB.out.mono ?_
      rintro e w5 ⟨a2, c2, rfl, hown2, hbel2⟩
      have K5 := Lib.hid ((H.out.below HB1.out).below hbel2).keeps
      have hown1 := own_kept HO1.out (fun k e => hbel2.block k (HO1.out.lt k e).2)
      rw [packed_eq, List.length_map] at hown1 hown2
      have D1 := Lib.hid (bytes_of_own hown1 (packedN_byte _ _))
      have D2 := Lib.hid (bytes_of_own hown2 (packedN_byte _ _))
      rw [packed_eq, packed_eq, List.length_map, List.length_map]
      have hl1 := packedN_length false L
      have hl2 := packedN_length true L
      have HG1 := Lib.hid (fun j (hj : j < (L.length + 7) / 8) => show (packedN false L)[j]? = some (byteAt false L j) by simp [packedN, hj])
      have HG2 := Lib.hid (fun j (hj : j < (L.length + 7) / 8) => show (packedN true L)[j]? = some (byteAt true L j) by simp [packedN, hj])
      rw [hl1] at D1 ⊢
      rw [hl2] at D2 ⊢
      clear hown1 hown2 hbel2 hl1 hl2
      have hm : (L.length + 7) / 8 ≤ 16777216 := by have := HL.out; omega
      generalize (L.length + 7) / 8 = m at *
      go_wp2_with fail
      go_loopw [82] (fun cnt wl => ∃ j : Nat, j ≤ m ∧ cnt = .int .i64 j ∧ wl = w5) (fun cnt _ => m - (intOf cnt).toNat)
      case atStart => exact ⟨0, Nat.zero_le _, rfl, rfl⟩
      case round =>
        obtain ⟨j, hj, rfl, rfl⟩ := hrel
        by_cases hjm : j < m
        · obtain ⟨b1, o1, rfl, g1⟩ := D1.out.2.2 (by omega)
          obtain ⟨b2, o2, rfl, g2⟩ := D2.out.2.2 (by omega)
          have d1 := g1 j _ (HG1.out j hjm)
          have d2 := g2 j _ (HG2.out j hjm)
          have hb1 := byteAt_lt false L j
          have hb2 := byteAt_lt true L j
          have HT := Lib.hid (turn_byte L j)
          generalize byteAt false L j = y1 at *
          generalize byteAt true L j = y2 at *
          clear g1 g2
          go_wp2_with fail
          go_loopw [13, 14] (fun tv k wl => ∃ q : Nat, q ≤ 8 ∧ k = .int .i64 q ∧ tv = .int .i64 (val true (lowr y1 q) : Nat) ∧ wl = wr) (fun _ k _ => 8 - (intOf k).toNat)
          case atStart => exact ⟨0, Nat.zero_le _, rfl, rfl, rfl⟩
          case round =>
            obtain ⟨q, hq, rfl, rfl, rfl⟩ := hrel
            by_cases hq8 : q < 8
            · have hE := u8_bit y1 q hb1
              have hbt : y1 / 2 ^ q % 2 ≤ 1 := by omega
              have HM := Lib.hid (turn_more y1 q)
              have hT : val true (lowr y1 q) < 256 := by
                have h1 := turn_lt y1 q
                have h2 : 2 ^ q ≤ 2 ^ 8 := Nat.pow_le_pow_right (by omega) (by omega)
                omega
              generalize y1 / 2 ^ q % 2 = bt at *
              generalize val true (lowr y1 q) = T at *
              go_wp2_with fail
              go_roundw
              case rel => exact ⟨q + 1, by omega, by go_num, by rw [HM.out]; simp, trivial⟩
              case measure => simp [intOf]; omega
            · obtain rfl : q = 8 := by omega
              rw [HT.out]
              go_wp2_with fail
              go_roundw
              case rel => exact ⟨j + 1, by omega, by go_num, trivial⟩
              case measure => simp [intOf]; omega
        · go_wp2_with fail
          go_ret
          exact ⟨rfl, K5.out⟩
end Go.Proofs.Yteeapkbmlhlhjaa
