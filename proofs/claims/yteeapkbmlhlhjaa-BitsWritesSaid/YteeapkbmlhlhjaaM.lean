/- What is written, number by number; the bits of a row's bytes are the row and noughts. -/
import Derived.Test.YteeapkbmlhlhjaaL
namespace Go.Proofs.Yteeapkbmlhlhjaa
open Go.RowKit

/-- The row behind one number. -/
def wrote1 (high : Bool) (L : List Bool) (x : Num) : List Bool := if x.F then fill L x.V else put high L x.V x.N
/-- The row behind the first i numbers. -/
def wrote (high : Bool) (xs : List Num) : Nat → List Bool
  | 0 => []
  | i + 1 => match xs[i]? with
    | some x => wrote1 high (wrote high xs i) x
    | none => wrote high xs i

theorem wrote_succ {high : Bool} {xs : List Num} {i : Nat} {x : Num} (h : xs[i]? = some x) : wrote high xs (i + 1) = wrote1 high (wrote high xs i) x := by simp [wrote, h]
theorem wrote1_more (high : Bool) (L : List Bool) (x : Num) : ∃ t, wrote1 high L x = L ++ t ∧ t.length ≤ 24 := by
  unfold wrote1
  split
  · exact ⟨_, rfl, by simp; omega⟩
  · unfold put
    split
    · rename_i h
      simp only [fits, decide_eq_true_eq] at h
      exact ⟨_, rfl, by rw [row_length]; omega⟩
    · exact ⟨[], by simp, by simp⟩
theorem wrote_length (high : Bool) (xs : List Num) (i : Nat) : (wrote high xs i).length ≤ 24 * i := by
  induction i with
  | zero => simp [wrote]
  | succ i ih =>
    simp only [wrote]
    cases h : xs[i]? with
    | none => simp only; omega
    | some x =>
      obtain ⟨t, e, ht⟩ := wrote1_more high (wrote high xs i) x
      simp only [e, List.length_append]
      omega
theorem wrote_more (high : Bool) (xs : List Num) (i k : Nat) : ∃ t, wrote high xs (i + k) = wrote high xs i ++ t := by
  induction k with
  | zero => exact ⟨[], by simp⟩
  | succ k ih =>
    obtain ⟨t, e⟩ := ih
    rw [← Nat.add_assoc]
    simp only [wrote]
    cases h : xs[i + k]? with
    | none => exact ⟨t, e⟩
    | some x =>
      obtain ⟨t2, e2, _⟩ := wrote1_more high (wrote high xs (i + k)) x
      refine ⟨t ++ t2, ?_⟩
      show wrote1 high (wrote high xs (i + k)) x = _
      rw [e2, e, List.append_assoc]

/-- A row's bytes as numbers. -/
def packedN (high : Bool) (L : List Bool) : List Nat := (List.range ((L.length + 7) / 8)).map (byteAt high L)
theorem packed_eq (high : Bool) (L : List Bool) : packed high L = (packedN high L).map (fun y : Nat => (y : Int)) := by simp [packed, packedN, fulls]
theorem packedN_length (high : Bool) (L : List Bool) : (packedN high L).length = (L.length + 7) / 8 := by simp [packedN]
theorem packedN_byte (high : Bool) (L : List Bool) : ∀ y ∈ packedN high L, y < 256 := by
  intro y hy
  simp only [packedN, List.mem_map] at hy
  obtain ⟨i, _, rfl⟩ := hy
  exact byteAt_lt high L i

theorem byteAt_succ (high : Bool) (L : List Bool) (i : Nat) : byteAt high L (i + 1) = byteAt high (L.drop 8) i := by
  unfold byteAt
  rw [List.drop_drop, show 8 + 8 * i = 8 * (i + 1) by omega]
theorem packedN_cons (high : Bool) (L : List Bool) (h : 0 < L.length) : packedN high L = byteOf high (L.take 8) :: packedN high (L.drop 8) := by
  unfold packedN
  rw [show (L.length + 7) / 8 = (L.drop 8).length / 8 + ((L.length + 7) / 8 - (L.drop 8).length / 8) by simp; omega]
  have e : (L.drop 8).length / 8 + ((L.length + 7) / 8 - (L.drop 8).length / 8) = ((L.drop 8).length + 7) / 8 + 1 := by simp; omega
  rw [e, List.range_succ_eq_map, List.map_cons, List.map_map]
  have e0 : byteAt high L 0 = byteOf high (L.take 8) := by simp [byteAt]
  rw [e0]
  congr 1
  refine List.map_congr_left ?_
  intro i _
  exact byteAt_succ high L i

/-- A byte's bits are the bits that it was made of, and noughts. -/
theorem row_byteOf (high : Bool) (ch : List Bool) (h : ch.length ≤ 8) : row high (byteOf high ch) 8 = ch ++ List.replicate (8 - ch.length) false := by
  have hl : (ch ++ List.replicate (8 - ch.length) false).length = 8 := by simp; omega
  have hv : val high (ch ++ List.replicate (8 - ch.length) false) = byteOf high ch := by
    cases high
    · rw [low_append]
      have : val false (List.replicate (8 - ch.length) false) = 0 := by
        rw [← row_zero false, val_row (Nat.two_pow_pos _)]
      rw [this]
      simp [byteOf]
    · rw [high_append]
      have : val true (List.replicate (8 - ch.length) false) = 0 := by
        rw [← row_zero true, val_row (Nat.two_pow_pos _)]
      rw [this, List.length_replicate]
      simp [byteOf]
  rw [← hv]
  have k := row_val high (ch ++ List.replicate (8 - ch.length) false)
  rw [hl] at k
  exact k

theorem rowOf_packed (high : Bool) (n : Nat) : ∀ L : List Bool, L.length ≤ 8 * n → ∃ k, rowOf high (packedN high L) = L ++ List.replicate k false := by
  induction n with
  | zero =>
    intro L hL
    obtain rfl : L = [] := List.eq_nil_of_length_eq_zero (by omega)
    exact ⟨0, rfl⟩
  | succ n ih =>
    intro L hL
    by_cases h0 : L.length = 0
    · obtain rfl : L = [] := List.eq_nil_of_length_eq_zero h0
      exact ⟨0, rfl⟩
    · rw [packedN_cons high L (by omega)]
      simp only [rowOf]
      rw [row_byteOf high _ (by simp; omega)]
      by_cases h8 : 8 ≤ L.length
      · obtain ⟨k, hk⟩ := ih (L.drop 8) (by simp; omega)
        rw [hk, List.length_take, Nat.min_eq_left h8]
        refine ⟨k, ?_⟩
        simp only [Nat.sub_self, List.replicate_zero, List.append_nil]
        rw [← List.append_assoc, List.take_append_drop]
      · rw [List.take_of_length_le (by omega), List.drop_eq_nil_of_le (by omega)]
        exact ⟨8 - L.length, by simp [packedN, rowOf]⟩

/-- What is read behind the first i numbers. -/
theorem read_back (high : Bool) (xs : List Num) (n i : Nat) (x : Num) (hi : i < n) (hx : xs[i]? = some x) (hF : x.F = false) (hf : fits x.V x.N = true) :
    (((rowOf high (packedN high (wrote high xs n))).drop (wrote high xs i).length).take x.N.toNat) = row high x.V.toNat x.N.toNat := by
  obtain ⟨k, hk⟩ := rowOf_packed high ((wrote high xs n).length) (wrote high xs n) (by omega)
  obtain ⟨t, ht⟩ := wrote_more high xs (i + 1) (n - (i + 1))
  rw [show i + 1 + (n - (i + 1)) = n by omega, wrote_succ hx] at ht
  have e : wrote1 high (wrote high xs i) x = wrote high xs i ++ row high x.V.toNat x.N.toNat := by simp [wrote1, hF, put, hf]
  rw [hk, ht, e, List.append_assoc, List.append_assoc, List.drop_left, List.take_append_of_le_length (by rw [row_length]; exact Nat.le_refl _), List.take_of_length_le (by rw [row_length]; exact Nat.le_refl _)]
theorem read_room (high : Bool) (xs : List Num) (n i : Nat) (x : Num) (hi : i < n) (hx : xs[i]? = some x) (hF : x.F = false) (hf : fits x.V x.N = true) :
    (wrote high xs i).length + x.N.toNat ≤ 8 * (packedN high (wrote high xs n)).length := by
  obtain ⟨t, ht⟩ := wrote_more high xs (i + 1) (n - (i + 1))
  rw [show i + 1 + (n - (i + 1)) = n by omega, wrote_succ hx] at ht
  have e : wrote1 high (wrote high xs i) x = wrote high xs i ++ row high x.V.toNat x.N.toNat := by simp [wrote1, hF, put, hf]
  rw [packedN_length, ht, e]
  simp only [List.length_append, row_length]
  omega
theorem fill_length (L : List Bool) (b : Int) : (fill L b).length = (L.length + 7) / 8 * 8 := by
  simp only [fill, List.length_append, List.length_replicate]; omega
theorem val_read (high : Bool) (v n : Int) (h : fits v n = true) : ((val high (row high v.toNat n.toNat) : Nat) : Int) = v := by
  simp only [fits, decide_eq_true_eq] at h
  rw [val_row (by omega)]
  omega
end Go.Proofs.Yteeapkbmlhlhjaa
