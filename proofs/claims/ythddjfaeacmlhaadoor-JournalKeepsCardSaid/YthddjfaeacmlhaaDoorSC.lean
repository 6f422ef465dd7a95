/- Bytes in memory; the contracts of CrcMore, AdlerMore and of the document's Crc and Adler. -/
import Derived.Test.YthddjfaeacmlhaaDoorSB
namespace Go.Proofs.YthddjfaeacmlhaaDoor
open Go.RowKit
set_option linter.unusedVariables false

/-- Bytes that a slice value leads to. -/
def Bytes (w : World) (a : Option Addr) (n : Nat) (ys : List Nat) : Prop :=
  ys.length = n ∧ (∀ y ∈ ys, y < 256) ∧ (0 < n → ∃ b off, a = some ⟨b, off, none⟩ ∧ ∀ (j y : Nat), ys[j]? = some y → w.cell? ⟨b, off + j, none⟩ = some (.int .u8 (y : Int)))

theorem Bytes.later {w w' : World} {a : Option Addr} {n : Nat} {ys : List Nat} (h : Bytes w a n ys) (hk : ∀ k, k < w.heap.size → w'.heap[k]? = w.heap[k]?) : Bytes w' a n ys := by
  obtain ⟨h1, h2, h3⟩ := h
  refine ⟨h1, h2, fun hp => ?_⟩
  obtain ⟨b, off, e, hc⟩ := h3 hp
  exact ⟨b, off, e, fun j y hj => (World.cell?_of_block (w := w) (hk _ (World.block_lt_of_cell? w _ (hc j y hj)))).trans (hc j y hj)⟩
theorem Bytes.at {w : World} {a : Option Addr} {n i : Nat} {ys : List Nat} (h : Bytes w a n ys) (hi : i < n) : ∃ b off y, a = some ⟨b, off, none⟩ ∧ ys[i]? = some y ∧ y < 256 ∧ w.cell? ⟨b, off + i, none⟩ = some (.int .u8 (y : Int)) := by
  obtain ⟨h1, h2, h3⟩ := h
  obtain ⟨b, off, e, hc⟩ := h3 (by omega)
  have hl : i < ys.length := by omega
  exact ⟨b, off, ys[i], e, List.getElem?_eq_getElem hl, h2 _ (List.getElem_mem hl), hc i _ (List.getElem?_eq_getElem hl)⟩
theorem take_more {ys : List Nat} {i y : Nat} (h : ys[i]? = some y) : ys.take (i + 1) = ys.take i ++ [y] := by
  rw [List.take_add_one, h]; rfl
theorem take_lt {ys : List Nat} (h : ∀ y ∈ ys, y < 256) (i : Nat) : ∀ y ∈ ys.take i, y < 256 := fun y hy => h y (List.mem_of_mem_take hy)

/-- The table's sixteen remainders. -/
def tab (i : Nat) : Nat := Sums.steps 4 i
/-- The table in memory. -/
def Fours (w : World) : Prop := ∀ i, i < 16 → w.cell? ⟨0, i, none⟩ = some (.int .u32 (tab i : Nat))
theorem Fours.later {w w' : World} (h : Fours w) (hk : ∀ k, k < w.heap.size → w'.heap[k]? = w.heap[k]?) : Fours w' :=
  fun i hi => (World.cell?_of_block (w := w) (hk _ (World.block_lt_of_cell? w _ (h i hi)))).trans (h i hi)

theorem four_table (x : Nat) : Sums.steps 4 x = tab (x % 16) ^^^ x / 16 := by
  have e : x = x % 16 ^^^ x / 16 * 2 ^ 4 := by
    apply Nat.eq_of_testBit_eq
    intro j
    have h1 : x % 16 = x % 2 ^ 4 := rfl
    rw [Nat.testBit_xor, h1, Nat.testBit_mod_two_pow, Nat.testBit_mul_two_pow, show x / 16 = x / 2 ^ 4 by rfl, Nat.testBit_div_two_pow]
    by_cases h : j < 4
    · have h2 : ¬ 4 ≤ j := by omega
      simp [h, h2]
    · have h2 : 4 ≤ j := by omega
      simp [h, h2]
  have k : Sums.steps 4 x = Sums.steps 4 (x % 16 ^^^ x / 16 * 2 ^ 4) := congrArg (Sums.steps 4) e
  rw [k, Sums.steps_xor, Sums.steps_down, tab]
theorem tab_lt (i : Nat) (h : i < 4294967296) : tab i < 4294967296 := Sums.steps_lt 4 h
theorem u32_fifteen (x : Nat) (hx : x < 4294967296) : bits .and .u32 (x : Int) 15 = ((x % 16 : Nat) : Int) := by
  have h := u32_and_nat x 15 hx (by omega)
  rw [nat_mask4] at h
  exact h
/-- Four steps by the table. -/
theorem u32_four (x : Nat) (hx : x < 4294967296) : bits .xor .u32 ((x : Int) / 16) (tab (x % 16) : Nat) = (Sums.steps 4 x : Nat) := by
  have h := u32_xor_nat (x / 16) (tab (x % 16)) (by omega) (tab_lt _ (by omega))
  rw [four_table, Nat.xor_comm]
  exact h

theorem not_signed : ¬ IntKind.u32.signed = true := by decide
theorem u32_turn (x : Nat) (hx : x < 4294967296) : bits .xor .u32 IntKind.u32.max (x : Int) = ((x ^^^ 4294967295 : Nat) : Int) := by
  have h := u32_xor_nat 4294967295 x (by omega) hx
  rw [Nat.xor_comm x]
  exact h
theorem turn_lt (x : Nat) (hx : x < 4294967296) : x ^^^ 4294967295 < 4294967296 := Nat.xor_lt_two_pow (n := 32) hx (by omega)
theorem byteStep_fours (v y : Nat) : Sums.byteStep v y = Sums.steps 4 (Sums.steps 4 (v ^^^ y)) := by
  rw [Sums.byteStep_eq, ← Sums.steps_add]
theorem crcs_take {v : Nat} {ys : List Nat} {i y : Nat} (h : ys[i]? = some y) : Sums.crcs v (ys.take (i + 1)) = Sums.byteStep (Sums.crcs v (ys.take i)) y := by
  rw [take_more h, Sums.crcs_append, Sums.crcs_cons, Sums.crcs_nil]

set_option maxHeartbeats 800000 in
theorem crcMore_any (w : World) (s : Nat) (hs : s < 4294967296) (a : Option Addr) (n c : Nat) (ys : List Nat) (hn : n ≤ 16777216) (h : Bytes w a n ys) (hF : Fours w) :
    Calls Tryd.prog 39 #[.int .i64 s, .slice a n c] w fun e w' => e = .returned (.int .i64 (Sums.crcs (s ^^^ 4294967295) ys ^^^ 4294967295 : Nat)) ∧ w' = w := by
  have HB := Lib.hid h
  have HF := Lib.hid hF
  have HS := Lib.hid (turn_lt s hs)
  have ht := u32_turn s hs
  have hns := not_signed
  have es : (s : Int) % 4294967296 = s := by omega
  clear h hF
  generalize s ^^^ 4294967295 = v0 at *
  go_enter Tryd.func39, Tryd.ntmps39
  go_wp2
  clear ht es
  go_loopw [5, 13] (fun r cnt wr => ∃ i : Nat, i ≤ n ∧ cnt = .int .i64 i ∧ r = .int .u32 (Sums.crcs v0 (ys.take i) : Nat) ∧ wr = w) (fun _ cnt _ => n - (intOf cnt).toNat)
  case atStart => exact ⟨0, Nat.zero_le _, rfl, rfl, rfl⟩
  case round =>
    obtain ⟨i, hi, rfl, rfl, rfl⟩ := hrel
    have hvl : Sums.crcs v0 (ys.take i) < 4294967296 := Sums.crcs_lt _ _ HS.out (take_lt HB.out.2.1 i)
    by_cases hlt : i < n
    · obtain ⟨b, off, y, rfl, hy, hy8, hcell⟩ := HB.out.at hlt
      have HN := Lib.hid (crcs_take (v := v0) hy)
      rw [byteStep_fours] at HN
      generalize Sums.crcs v0 (ys.take i) = v at *
      generalize hv' : Sums.crcs v0 (ys.take (i + 1)) = v' at *
      have HV := Lib.hid hv'
      clear hv'
      have hx := u32_xor_nat v y hvl (by omega)
      have hxl : v ^^^ y < 4294967296 := Nat.xor_lt_two_pow (n := 32) hvl (by omega)
      generalize v ^^^ y = x at *
      have h15 := u32_fifteen x hxl
      have hx1 := u32_four x hxl
      have hc1 := HF.out (x % 16) (by omega)
      have hl1 : Sums.steps 4 x < 4294967296 := Sums.steps_lt 4 hxl
      have hi1 : x % 16 < 16 := by omega
      generalize x % 16 = i1 at *
      generalize Sums.steps 4 x = x1 at *
      have h15' := u32_fifteen x1 hl1
      have hx2 := u32_four x1 hl1
      have hc2 := HF.out (x1 % 16) (by omega)
      have hi2 : x1 % 16 < 16 := by omega
      generalize x1 % 16 = i2 at *
      generalize Sums.steps 4 x1 = x2 at *
      generalize tab i1 = t1 at *
      generalize tab i2 = t2 at *
      have ey : (y : Int) % 4294967296 = y := by omega
      clear hy hvl hxl hl1
      go_wp2_with fail
      go_roundw
      case rel => exact ⟨i + 1, by omega, by go_num, by rw [HV.out, HN.out], trivial⟩
      case measure => simp [intOf]; omega
    · obtain rfl : i = n := by omega
      have hcr := u32_turn _ hvl
      have e : ys.take i = ys := by rw [List.take_of_length_le (by rw [HB.out.1]; exact Nat.le_refl _)]
      rw [e] at hcr hvl ⊢
      generalize hV : Sums.crcs v0 ys = v at *
      have hl := turn_lt v hvl
      generalize hz : v ^^^ 4294967295 = z at *
      have HZ := Lib.hid (And.intro hV hz)
      clear hz hV
      go_wp2
      go_ret
      exact ⟨by rw [HZ.out.1, HZ.out.2]; rfl, rfl⟩

/-! The document's sums. -/
theorem wrap_i64 (n : Int) (h0 : -9223372036854775808 ≤ n) (h1 : n ≤ 9223372036854775807) : IntKind.i64.wrap n = n := by
  simp [IntKind.wrap, IntKind.bits, IntKind.signed]
  omega
theorem ofInt_i64 (a : Nat) (ha : a < 9223372036854775808) : (BitVec.ofInt 64 (a : Int)).toNat = a := by
  rw [BitVec.ofInt_natCast, BitVec.toNat_ofNat]; exact Nat.mod_eq_of_lt (by omega)
theorem i64_and_nat (a b : Nat) (ha : a < 9223372036854775808) (hb : b < 9223372036854775808) : bits .and .i64 (a : Int) (b : Int) = ((a &&& b : Nat) : Int) := by
  have hx : a &&& b < 2 ^ 63 := Nat.and_lt_two_pow _ (by omega)
  show IntKind.i64.wrap ((BitVec.ofInt 64 (a : Int) &&& BitVec.ofInt 64 (b : Int)).toNat : Int) = _
  rw [BitVec.toNat_and, ofInt_i64 a ha, ofInt_i64 b hb, wrap_i64 _ (by omega) (by omega)]
theorem i64_or_nat (a b : Nat) (ha : a < 9223372036854775808) (hb : b < 9223372036854775808) : bits .or .i64 (a : Int) (b : Int) = ((a ||| b : Nat) : Int) := by
  have hx : a ||| b < 2 ^ 63 := Nat.or_lt_two_pow (by omega) (by omega)
  show IntKind.i64.wrap ((BitVec.ofInt 64 (a : Int) ||| BitVec.ofInt 64 (b : Int)).toNat : Int) = _
  rw [BitVec.toNat_or, ofInt_i64 a ha, ofInt_i64 b hb, wrap_i64 _ (by omega) (by omega)]
theorem i64_xor_nat (a b : Nat) (ha : a < 9223372036854775808) (hb : b < 9223372036854775808) : bits .xor .i64 (a : Int) (b : Int) = ((a ^^^ b : Nat) : Int) := by
  have hx : a ^^^ b < 2 ^ 63 := Nat.xor_lt_two_pow (by omega) (by omega)
  show IntKind.i64.wrap ((BitVec.ofInt 64 (a : Int) ^^^ BitVec.ofInt 64 (b : Int)).toNat : Int) = _
  rw [BitVec.toNat_xor, ofInt_i64 a ha, ofInt_i64 b hb, wrap_i64 _ (by omega) (by omega)]
theorem i64_mask (a n : Nat) (ha : a < 9223372036854775808) (hn : n ≤ 62) : bits .and .i64 (a : Int) ((2 ^ n - 1 : Nat) : Int) = ((a % 2 ^ n : Nat) : Int) := by
  have hp : 2 ^ n ≤ 2 ^ 62 := Nat.pow_le_pow_right (by omega) hn
  rw [i64_and_nat a _ ha (by omega), Nat.and_two_pow_sub_one_eq_mod]

theorem docCrc_any (w : World) (a : Option Addr) (n c : Nat) (ys : List Nat) (hn : n ≤ 16777216) (h : Bytes w a n ys) :
    Calls Tryd.prog 31 #[.slice a n c] w fun e w' => e = .returned (.int .i64 (Sums.crc ys : Nat)) ∧ w' = w := by
  have HB := Lib.hid h
  clear h
  go_enter Tryd.func31, Tryd.ntmps31
  go_wp2
  go_loopw [3, 4] (fun r cnt wr => ∃ i : Nat, i ≤ n ∧ cnt = .int .i64 i ∧ r = .int .i64 (Sums.crcs 4294967295 (ys.take i) : Nat) ∧ wr = w) (fun _ cnt _ => n - (intOf cnt).toNat)
  case atStart => exact ⟨0, Nat.zero_le _, rfl, rfl, rfl⟩
  case round =>
    obtain ⟨i, hi, rfl, rfl, rfl⟩ := hrel
    have hvl : Sums.crcs 4294967295 (ys.take i) < 4294967296 := Sums.crcs_lt _ _ (by omega) (take_lt HB.out.2.1 i)
    by_cases hlt : i < n
    · obtain ⟨b, off, y, rfl, hy, hy8, hcell⟩ := HB.out.at hlt
      have HN := crcs_take (v := 4294967295) hy
      rw [Sums.byteStep_eq] at HN
      generalize Sums.crcs 4294967295 (ys.take i) = v at *
      generalize hv' : Sums.crcs 4294967295 (ys.take (i + 1)) = v' at *
      have hx := i64_xor_nat v y (by omega) (by omega)
      have hxl : v ^^^ y < 4294967296 := Nat.xor_lt_two_pow (n := 32) hvl (by omega)
      generalize v ^^^ y = x at *
      have HX := Lib.hid hxl
      have HV := Lib.hid (hv'.trans HN)
      clear HN hv' hy hvl hxl
      go_wp2_with fail
      go_loopw [3, 5] (fun r cnt wl => ∃ k : Nat, k ≤ 8 ∧ cnt = .int .i64 k ∧ r = .int .i64 (Sums.steps k x : Nat) ∧ wl = wr) (fun _ cnt _ => 8 - (intOf cnt).toNat)
      case atStart => exact ⟨0, Nat.zero_le _, rfl, rfl, rfl⟩
      case round =>
        obtain ⟨k, hk, rfl, rfl, rfl⟩ := hrel
        by_cases hk8 : k < 8
        · have hzl : Sums.steps k x < 4294967296 := Sums.steps_lt k HX.out
          have hnx : Sums.steps (k + 1) x = Sums.step (Sums.steps k x) := by rw [Sums.steps_cons, Sums.steps_step]
          generalize Sums.steps k x = z at *
          generalize hz' : Sums.steps (k + 1) x = z' at *
          have HZ := Lib.hid (hz'.trans hnx)
          clear hz' hnx
          rcases Nat.mod_two_eq_zero_or_one z with e2 | e2
          · have e3 : (z : Int) % 2 = 0 := by omega
            have HS := Lib.hid (show Sums.step z = z / 2 by unfold Sums.step; rw [if_neg (by omega)])
            clear e2
            go_wp2_with fail
            go_roundw
            case rel => exact ⟨k + 1, by omega, by go_num, by rw [HZ.out, HS.out]; simp, trivial⟩
            case measure => simp [intOf]; omega
          · have e3 : (z : Int) % 2 = 1 := by omega
            have HS := Lib.hid (show Sums.step z = z / 2 ^^^ Sums.poly by unfold Sums.step; rw [if_pos e2])
            have hxx : bits .xor .i64 ((z : Int) / 2) 3988292384 = ((z / 2 ^^^ 3988292384 : Nat) : Int) := i64_xor_nat (z / 2) 3988292384 (by omega) (by omega)
            have HS2 := Lib.hid (show z / 2 ^^^ Sums.poly = z / 2 ^^^ 3988292384 from rfl)
            generalize z / 2 ^^^ 3988292384 = u at *
            clear e2
            go_wp2_with fail
            go_roundw
            case rel => exact ⟨k + 1, by omega, by go_num, by rw [HZ.out, HS.out, HS2.out], trivial⟩
            case measure => simp [intOf]; omega
        · obtain rfl : k = 8 := by omega
          generalize hz : Sums.steps 8 x = z at *
          have HZ := Lib.hid hz
          clear hz
          go_wp2_with fail
          go_roundw
          case rel => exact ⟨i + 1, by omega, by go_num, by rw [HV.out], trivial⟩
          case measure => simp [intOf]; omega
    · obtain rfl : i = n := by omega
      have e : ys.take i = ys := by rw [List.take_of_length_le (by rw [HB.out.1]; exact Nat.le_refl _)]
      have hc : Sums.crc ys = Sums.crcs 4294967295 ys ^^^ 4294967295 := rfl
      rw [e] at hvl ⊢
      have hx : bits .xor .i64 (Sums.crcs 4294967295 ys : Nat) 4294967295 = ((Sums.crcs 4294967295 ys ^^^ 4294967295 : Nat) : Int) := i64_xor_nat _ 4294967295 (by omega) (by omega)
      generalize Sums.crcs 4294967295 ys = v at *
      generalize v ^^^ 4294967295 = z at *
      have HZ := Lib.hid hc
      clear hc
      go_wp2
      go_ret
      exact ⟨by rw [HZ.out]; rfl, rfl⟩
end Go.Proofs.YthddjfaeacmlhaaDoor
