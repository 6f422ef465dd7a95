/- The bits of bytes as a row; the contracts of highFirst and lowFirst. -/
import Derived.Test.YteeapkbmlhlhjaaJ
namespace Go.Proofs.Yteeapkbmlhlhjaa
open Go.RowKit

/-- The bits of bytes, one byte behind the other. -/
def rowOf (high : Bool) : List Nat → List Bool
  | [] => []
  | y :: ys => row high y 8 ++ rowOf high ys

theorem rowOf_length (high : Bool) (ys : List Nat) : (rowOf high ys).length = 8 * ys.length := by
  induction ys with
  | nil => rfl
  | cons y ys ih => simp only [rowOf, List.length_append, row_length, ih, List.length_cons]; omega
theorem rowOf_append (high : Bool) (xs ys : List Nat) : rowOf high (xs ++ ys) = rowOf high xs ++ rowOf high ys := by
  induction xs with
  | nil => rfl
  | cons x xs ih => simp [rowOf, ih]
theorem rowOf_drop (high : Bool) (ys : List Nat) (k : Nat) : rowOf high (ys.drop k) = (rowOf high ys).drop (8 * k) := by
  induction k generalizing ys with
  | zero => simp
  | succ k ih =>
    cases ys with
    | nil => simp [rowOf]
    | cons y ys =>
      simp only [List.drop_succ_cons, ih, rowOf]
      rw [show 8 * (k + 1) = (row high y 8).length + 8 * k by rw [row_length]; omega, ← List.drop_drop, List.drop_left]
theorem rowOf_take (high : Bool) (ys : List Nat) (k : Nat) : rowOf high (ys.take k) = (rowOf high ys).take (8 * k) := by
  induction k generalizing ys with
  | zero => simp [rowOf]
  | succ k ih =>
    cases ys with
    | nil => simp [rowOf]
    | cons y ys =>
      simp only [List.take_succ_cons, ih, rowOf]
      rw [show 8 * (k + 1) = (row high y 8).length + 8 * k by rw [row_length]; omega, List.take_length_add_append]
theorem take_one_more {ys : List Nat} {i y : Nat} (h : ys[i]? = some y) : ys.take (i + 1) = ys.take i ++ [y] := by
  rw [List.take_add_one, h]; rfl

theorem low_more {ys : List Nat} {i y : Nat} (h : ys[i]? = some y) (hy : y < 256) : val false (rowOf false (ys.take (i + 1))) = val false (rowOf false (ys.take i)) + y * 2 ^ (8 * i) := by
  have hi : i < ys.length := (List.getElem?_eq_some_iff.1 h).1
  rw [take_one_more h, rowOf_append, low_append, rowOf_length, List.length_take, Nat.min_eq_left (by omega)]
  simp only [rowOf, List.append_nil]
  rw [val_row (by omega), Nat.mul_comm]
theorem high_more {ys : List Nat} {i y : Nat} (h : ys[i]? = some y) (hy : y < 256) : val true (rowOf true (ys.take (i + 1))) = val true (rowOf true (ys.take i)) * 256 + y := by
  rw [take_one_more h, rowOf_append, high_append]
  simp only [rowOf, List.append_nil]
  rw [val_row (by omega), row_length]

theorem or_high (V y : Nat) (hV : V < 16777216) (hy : y < 256) : bits .or .i64 ((V : Int) * 256) (y : Int) = ((V * 256 + y : Nat) : Int) := by
  rw [show ((V : Int) * 256) = ((V * 256 : Nat) : Int) by simp, i64_or_nat _ _ (by omega) (by omega), nat_join 8 _ _ (by omega) (by omega)]
theorem or_low (V y i : Nat) (hV : V < 2 ^ (8 * i)) (hi : i < 4) (hy : y < 256) : bits .or .i64 (V : Int) ((y * 2 ^ (8 * i) : Nat) : Int) = ((V + y * 2 ^ (8 * i) : Nat) : Int) := by
  have h1 : 2 ^ (8 * i) ≤ 2 ^ 24 := Nat.pow_le_pow_right (by omega) (by omega)
  have h2 : y * 2 ^ (8 * i) ≤ 256 * 2 ^ 24 := Nat.mul_le_mul (by omega) h1
  rw [i64_or_nat _ _ (by omega) (by omega), Nat.or_comm, nat_join (8 * i) _ _ (Nat.mul_mod_left _ _) hV, Nat.add_comm]

/-- Bytes that a slice value leads to. -/
def Bytes (w : World) (a : Option Addr) (n : Nat) (ys : List Nat) : Prop :=
  ys.length = n ∧ (∀ y ∈ ys, y < 256) ∧ (0 < n → ∃ b off, a = some ⟨b, off, none⟩ ∧ ∀ (j y : Nat), ys[j]? = some y → w.cell? ⟨b, off + j, none⟩ = some (.int .u8 (y : Int)))

theorem Bytes.later {w w' : World} {a : Option Addr} {n : Nat} {ys : List Nat} (h : Bytes w a n ys) (hk : ∀ k, k < w.heap.size → w'.heap[k]? = w.heap[k]?) : Bytes w' a n ys := by
  obtain ⟨h1, h2, h3⟩ := h
  refine ⟨h1, h2, fun hp => ?_⟩
  obtain ⟨b, off, e, hc⟩ := h3 hp
  exact ⟨b, off, e, fun j y hj => (World.cell?_of_block (w := w) (hk _ (World.block_lt_of_cell? w _ (hc j y hj)))).trans (hc j y hj)⟩

theorem highFirst_any (w : World) (a : Option Addr) (n c : Nat) (ys : List Nat) (h : Bytes w a n ys) (hn : n ≤ 4) :
    Calls Try.prog 24 #[.slice a n c] w fun e w' => e = .returned (.int .i64 (val true (rowOf true ys) : Nat)) ∧ w' = w := by
  obtain ⟨hl, hb, hc⟩ := h
  have HL := Lib.hid hl
  have HB := Lib.hid hb
  have HC := Lib.hid hc
  clear hl hb hc
  go_enter Try.func24, Try.ntmps24
  go_wp2
  go_loopw [3, 8] (fun v cnt wr => ∃ i : Nat, i ≤ n ∧ cnt = .int .i64 i ∧ v = .int .i64 (val true (rowOf true (ys.take i)) : Nat) ∧ wr = w) (fun _ cnt _ => n - (intOf cnt).toNat)
  case atStart => exact ⟨0, Nat.zero_le _, rfl, rfl, rfl⟩
  case round =>
    obtain ⟨i, hi, rfl, rfl, rfl⟩ := hrel
    by_cases hlt : i < n
    · obtain ⟨b, off, rfl, hcell⟩ := HC.out (by omega)
      obtain ⟨y, hy⟩ : ∃ y, ys[i]? = some y := ⟨_, List.getElem?_eq_getElem (by rw [HL.out]; exact hlt)⟩
      have c0 := hcell i y hy
      have hy8 : y < 256 := HB.out y (List.mem_of_getElem? hy)
      have hm := Lib.hid (high_more hy hy8)
      have hV : val true (rowOf true (ys.take i)) < 16777216 := by
        have h1 := val_lt true (rowOf true (ys.take i))
        rw [rowOf_length, List.length_take] at h1
        have h2 : 2 ^ (8 * min i ys.length) ≤ 2 ^ 24 := Nat.pow_le_pow_right (by omega) (by omega)
        omega
      generalize val true (rowOf true (ys.take i)) = V at *
      clear hcell hy
      go_wp2
      go_roundw
      case rel => exact ⟨i + 1, hlt, by go_num, by rw [hm.out, or_high V y hV hy8], trivial⟩
      case measure => simp [intOf]; omega
    · obtain rfl : i = n := by omega
      rw [List.take_of_length_le (by rw [HL.out]; omega)]
      go_wp2
      go_ret
      exact ⟨rfl, rfl⟩

theorem lowFirst_any (w : World) (a : Option Addr) (n c : Nat) (ys : List Nat) (h : Bytes w a n ys) (hn : n ≤ 4) :
    Calls Try.prog 25 #[.slice a n c] w fun e w' => e = .returned (.int .i64 (val false (rowOf false ys) : Nat)) ∧ w' = w := by
  obtain ⟨hl, hb, hc⟩ := h
  have HL := Lib.hid hl
  have HB := Lib.hid hb
  have HC := Lib.hid hc
  clear hl hb hc
  go_enter Try.func25, Try.ntmps25
  go_wp2
  go_loopw [3, 8] (fun v cnt wr => ∃ i : Nat, i ≤ n ∧ cnt = .int .i64 i ∧ v = .int .i64 (val false (rowOf false (ys.take i)) : Nat) ∧ wr = w) (fun _ cnt _ => n - (intOf cnt).toNat)
  case atStart => exact ⟨0, Nat.zero_le _, rfl, rfl, rfl⟩
  case round =>
    obtain ⟨i, hi, rfl, rfl, rfl⟩ := hrel
    by_cases hlt : i < n
    · obtain ⟨b, off, rfl, hcell⟩ := HC.out (by omega)
      obtain ⟨y, hy⟩ : ∃ y, ys[i]? = some y := ⟨_, List.getElem?_eq_getElem (by rw [HL.out]; exact hlt)⟩
      have c0 := hcell i y hy
      have hy8 : y < 256 := HB.out y (List.mem_of_getElem? hy)
      have hm := Lib.hid (low_more hy hy8)
      have hV : val false (rowOf false (ys.take i)) < 2 ^ (8 * i) := by
        have h1 := val_lt false (rowOf false (ys.take i))
        rw [rowOf_length, List.length_take, Nat.min_eq_left (by rw [HL.out]; omega)] at h1
        exact h1
      have HO := Lib.hid (or_low _ y i hV (by omega) hy8)
      have HW := Lib.hid (show wrap64 ((y : Int) * 2 ^ (8 * i)) = ((y * 2 ^ (8 * i) : Nat) : Int) by
        have h1 : 2 ^ (8 * i) ≤ 2 ^ 24 := Nat.pow_le_pow_right (by omega) (by omega)
        have h2 : y * 2 ^ (8 * i) ≤ 256 * 2 ^ 24 := Nat.mul_le_mul (by omega) h1
        rw [two_pow_cast, ← Int.natCast_mul, IntWalk.wrap64_in _ (by omega)])
      generalize val false (rowOf false (ys.take i)) = V at *
      clear hcell hy hV
      go_wp2
      go_roundw
      case rel => exact ⟨i + 1, hlt, by go_num, by rw [hm.out, HW.out, HO.out], trivial⟩
      case measure => simp [intOf]; omega
    · obtain rfl : i = n := by omega
      rw [List.take_of_length_le (by rw [HL.out]; omega)]
      go_wp2
      go_ret
      exact ⟨rfl, rfl⟩

/-- A reader at block P over the bytes ds, which lie in block D; it stands at a bit. -/
structure Rd (w : World) (B P D : Nat) (high : Bool) (ds : List Nat) (pos : Nat) : Prop where
  at_ : B ≤ P
  dat_ : B ≤ D
  ne : D ≠ P
  byte : ∀ y ∈ ds, y < 256
  block : w.heap[P]? = some (.cells #[.bool high, .slice (some ⟨D, 0, none⟩) ds.length ds.length, .int .i64 (pos : Int)] 50 (0, 0))
  data : w.heap[D]? = some (.cells (ds.map (fun y : Nat => Value.int .u8 (y : Int))).toArray 5 (0, 0))
  pos_le : pos ≤ 8 * ds.length
  len : ds.length ≤ 16777216

theorem reader_cells {w : World} {R : Nat} {a b c : Value} {t : TypeId} (h : w.heap[R]? = some (.cells #[a, b, c] t (0, 0))) :
    w.cell? ⟨R, 0, none⟩ = some a ∧ w.cell? ⟨R, 1, none⟩ = some b ∧ w.cell? ⟨R, 2, none⟩ = some c := by
  simp [World.cell?, h]

theorem Rd.kept {w w' : World} {B P D pos : Nat} {high : Bool} {ds : List Nat} (h : Rd w B P D high ds pos) (hP : w'.heap[P]? = w.heap[P]?) (hD : w'.heap[D]? = w.heap[D]?) : Rd w' B P D high ds pos :=
  ⟨h.at_, h.dat_, h.ne, h.byte, hP.trans h.block, hD.trans h.data, h.pos_le, h.len⟩
theorem Rd.set {w : World} {B P D pos p' : Nat} {high : Bool} {ds : List Nat} (h : Rd w B P D high ds pos) (hp : p' ≤ 8 * ds.length) : Rd (w.setCell ⟨P, 2, none⟩ (.int .i64 (p' : Int))) B P D high ds p' := by
  refine ⟨h.at_, h.dat_, h.ne, h.byte, ?_, ?_, hp, h.len⟩
  · rw [block_set h.block]; simp
  · rw [Below.heap_setCell _ _ _ _ h.ne]; exact h.data
theorem Rd.bytes {w : World} {B P D pos : Nat} {high : Bool} {ds : List Nat} (h : Rd w B P D high ds pos) (k m : Nat) : Bytes w (some ⟨D, k, none⟩) ((ds.drop k).take m).length ((ds.drop k).take m) := by
  refine ⟨rfl, fun y hy => h.byte y (List.mem_of_mem_drop (List.mem_of_mem_take hy)), fun _ => ⟨D, k, rfl, fun j y hj => ?_⟩⟩
  rw [List.getElem?_take] at hj
  split at hj
  · rw [List.getElem?_drop] at hj
    simp [World.cell?, h.data, hj]
  · cases hj
theorem Rd.lt {w : World} {B P D pos : Nat} {high : Bool} {ds : List Nat} (h : Rd w B P D high ds pos) : P < w.heap.size ∧ D < w.heap.size := ⟨lt_of_block h.block, lt_of_block h.data⟩

theorem at_any (w : World) (B P D pos : Nat) (high : Bool) (ds : List Nat) (h : Rd w B P D high ds pos) :
    Calls Try.prog 19 #[.pointer (some ⟨P, 0, none⟩)] w fun e w' => e = .returned (.int .i64 pos) ∧ w' = w := by
  obtain ⟨h0, h1, h2⟩ := reader_cells h.block
  clear h h0 h1
  go_enter Try.func19, Try.ntmps19
  go_wp2
  go_ret
  exact ⟨rfl, rfl⟩

theorem left_any (w : World) (B P D pos : Nat) (high : Bool) (ds : List Nat) (h : Rd w B P D high ds pos) :
    Calls Try.prog 20 #[.pointer (some ⟨P, 0, none⟩)] w fun e w' => e = .returned (.int .i64 ((8 * ds.length - pos : Nat) : Int)) ∧ ∃ n, w' = w.drewN n := by
  obtain ⟨h0, h1, h2⟩ := reader_cells h.block
  have hp := h.pos_le
  have hl := h.len
  clear h h0
  have e : ((8 * ds.length - pos : Nat) : Int) = 8 * (ds.length : Int) - pos := by omega
  rw [e]
  clear e
  generalize ds.length = n at *
  go_enter Try.func20, Try.ntmps20
  go_wp2
  go_quiet (fail)
  go_wp2
  go_ret
  exact ⟨rfl, _, rfl⟩

theorem align_any (w : World) (B P D pos : Nat) (high : Bool) (ds : List Nat) (h : Rd w B P D high ds pos) :
    Calls Try.prog 17 #[.pointer (some ⟨P, 0, none⟩)] w fun e w' => e = .returned (.tuple #[]) ∧ Rd w' B P D high ds ((pos + 7) / 8 * 8) ∧ Keeps (fun k => k = P) w w' := by
  obtain ⟨h0, h1, h2⟩ := reader_cells h.block
  have f2 := block_free h.block 2
  have hp := h.pos_le
  have hl := h.len
  have X := Lib.hid (And.intro (h.set (p' := (pos + 7) / 8 * 8) (by omega)) (Keeps.one w P 2 (.int .i64 (((pos + 7) / 8 * 8 : Nat) : Int))))
  clear h h0 h1
  go_enter Try.func17, Try.ntmps17
  go_wp2
  go_end0
  rw [show ((pos : Int) + 7) / 8 * 8 = (((pos + 7) / 8 * 8 : Nat) : Int) by omega]
  exact ⟨rfl, X.out⟩

theorem open_any (w : World) (B : Nat) (hB : B ≤ w.heap.size) (a : Option Addr) (n c : Nat) (ds : List Nat) (high : Bool) (h : Bytes w a n ds) (hn : n ≤ 16777216) :
    Calls Try.prog 16 #[.slice a n c, .bool high] w fun e w' => ∃ P, e = .returned (.pointer (some ⟨P, 0, none⟩)) ∧ Rd w' B P w.heap.size high ds 0 ∧ w.heap.size ≤ P ∧ Below w.heap.size w w' := by
  have S := Lib.hid h
  clear h
  go_enter Try.func16, Try.ntmps16
  go_wp2_with (at_make; go_must (refine wpList_make_cap rfl (.tmp 7) (.tmp 7) rfl n n rfl rfl (Nat.le_refl _) (by omega) ?c2))
  case c2 =>
    intro w1 hown1 hb1 hbel1
    have hg1 : w1.heap[w.heap.size]? = some (.cells (madeCells #[.int .u8 0] n).toList.toArray 5 (0, 0)) := by simpa using hb1
    have HB := Lib.hid hbel1
    have HG := Lib.hid hg1
    have S1 := Lib.hid (S.out.later (fun k hk => hbel1.block k hk))
    have hw1 := lt_of_block hb1
    clear hown1 hb1 hbel1 hg1
    go_wp2_with (with_reducible refine wpList_copy_splice rfl (.tmp 9) (.tmp 10) 33 33 rfl 5 Try.underlying33 (by kernel_rfl) (some ⟨w.heap.size, 0, none⟩) a n n n c rfl rfl w.heap.size 0 _ 5 HG.out (ds.map (fun y : Nat => Value.int .u8 (y : Int))) ?d1 ?d2 ?d3 ?d4 w.heap.size w HB.out (Nat.le_refl _) ?d5)
    case d1 => rw [List.length_map, S1.out.1]; simp
    case d2 =>
      intro hp
      obtain ⟨b, off, e, hc⟩ := S1.out.2.2 (by have := S1.out.1; omega)
      refine ⟨⟨b, off, none⟩, e, ?_⟩
      intro j y hj
      have k := hc j y hj
      have e3 : ((⟨b, off, none⟩ : Addr).add j) = ⟨b, off + j, none⟩ := by
        unfold Addr.add
        split
        · rename_i h; subst h; rfl
        · rfl
      rw [e3]
      exact k
    case d3 => have := S1.out.1; simp [size_madeCells]; omega
    case d4 => intro u hu; simp only [List.mem_map] at hu; obtain ⟨y, _, rfl⟩ := hu; rfl
    case d5 =>
      intro w2 hh hb2
      have X := Lib.hid (show w2.heap[w.heap.size]? = some (.cells (ds.map (fun y : Nat => Value.int .u8 (y : Int))).toArray 5 (0, 0)) by
        rw [hh.out]
        have e : ∀ Z : List Value, Z.length = n → splice Z 0 (ds.map (fun y : Nat => Value.int .u8 (y : Int))) = ds.map (fun y : Nat => Value.int .u8 (y : Int)) := by
          intro Z hZ
          have := S1.out.1
          unfold splice
          rw [List.drop_eq_nil_of_le (by simp; omega)]
          simp
        rw [e _ (by simp [size_madeCells])])
      have Y := Lib.hid hb2
      have hw2 : w.heap.size < w2.heap.size := lt_of_block X.out
      clear hh hb2
      go_wp2
      go_ret
      have hnl : ds.length = n := S.out.1
      subst hnl
      refine ⟨_, rfl, ⟨by omega, hB, by omega, S.out.2.1, ?_, ?_, by omega, hn⟩, by omega, Y.out.alloc (by omega) _⟩
      · rw [heap_alloc_new]; rfl
      · rw [Below.heap_alloc _ _ _ hw2]; exact X.out

theorem get_no (w : World) (B P D pos : Nat) (high : Bool) (ds : List Nat) (h : Rd w B P D high ds pos) (n : Int) (hn : n < 0 ∨ 24 < n ∨ ((8 * ds.length - pos : Nat) : Int) < n) :
    Calls Try.prog 18 #[.pointer (some ⟨P, 0, none⟩), .int .i64 n] w fun e w' => e = .returned (.tuple #[.int .i64 0, .bool false]) ∧ ∃ q, w' = w.drewN q := by
  by_cases c0 : n < 0
  · have t0 : decide (n < 0) = true := by simpa using c0
    clear h hn
    go_enter Try.func18, Try.ntmps18
    go_wp2
    go_ret2
    exact ⟨rfl, 0, rfl⟩
  have t0 : decide (n < 0) = false := by simpa using c0
  by_cases c1 : 24 < n
  · have t1 : decide (24 < n) = true := by simpa using c1
    clear h hn
    go_enter Try.func18, Try.ntmps18
    go_wp2
    go_ret2
    exact ⟨rfl, 0, rfl⟩
  have t1 : decide (24 < n) = false := by simpa using c1
  have C := Lib.hid (left_any w B P D pos high ds h)
  have t2 : decide (((8 * ds.length - pos : Nat) : Int) < n) = true := by simp only [decide_eq_true_eq]; omega
  clear h hn
  generalize ((8 * ds.length - pos : Nat) : Int) = z at *
  go_enter Try.func18, Try.ntmps18
  go_wp2_with fail
  refine C.out.mono ?_
  rintro e w' ⟨rfl, q, rfl⟩
  go_wp2_with fail
  go_ret2
  exact ⟨rfl, q, rfl⟩

end Go.Proofs.Yteeapkbmlhlhjaa
