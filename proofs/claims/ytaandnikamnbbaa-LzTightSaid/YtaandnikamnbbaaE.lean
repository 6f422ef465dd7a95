/- The walk of literals; Find without effort. -/
import Derived.Test.YtaandnikamnbbaaD
namespace Go.Proofs.Ytaandnikamnbbaa
open Go.RowKit
set_option linter.unusedVariables false

theorem info27 : (Try.prog.info? 27).map (fun i => (i.zero, i.size, i.bytes)) = some (some (.agg #[.int .i64 0, .int .i64 0, .int .u8 0]), 3, 24) := by kernel_rfl
theorem run_make_toks (k : Nat) (hk : k ≤ 16777216) (w : World) : (Instr.makeSlice 22 (.int .i64 (k : Int)) (.int .i64 (k : Int))).run Try.prog w = .ok (.slice (some ⟨w.heap.size, 0, none⟩) k k) (w.alloc (.cells (madeCells #[.int .i64 0, .int .i64 0, .int .u8 0] (k * 3)) 27)) := by
  obtain ⟨i, hi, hzz⟩ := Option.map_eq_some_iff.1 info27
  simp only [Prod.mk.injEq] at hzz
  obtain ⟨hz, hs, hb⟩ := hzz
  have hr := run_make (P := Try.prog) w 22 27 i _ Try.underlying22 hi hz .i64 .i64 k k (by omega) (Int.le_refl _) (by rw [hb]; omega) (by omega)
  simp only [Int.toNat_natCast, hs] at hr
  exact hr

/-- A literal. -/
def lit (y : Nat) : Tok := ⟨0, 0, y⟩
/-- A row of tokens of the call's own, the first i of which are literals. -/
def Lits (w : World) (g n i : Nat) (ys : List Nat) : Prop :=
  ∃ cur : Array Value, w.heap[g]? = some (.cells cur 27 (0, 0)) ∧ cur.size = n * 3 ∧ ∀ j, j < n → cur[j * 3]? = some (.int .i64 0) ∧ cur[j * 3 + 1]? = some (.int .i64 0) ∧ cur[j * 3 + 2]? = some (.int .u8 ((if j < i then ys.getD j 0 else 0 : Nat) : Int))
theorem lits_start (w : World) (n : Nat) (ys : List Nat) : Lits (w.alloc (.cells (madeCells #[.int .i64 0, .int .i64 0, .int .u8 0] (n * 3)) 27)) w.heap.size n 0 ys := by
  refine ⟨_, heap_alloc_new _ _, size_madeCells _ _, fun j hj => ?_⟩
  have h0 : j * 3 < n * 3 := by omega
  have h1 : j * 3 + 1 < n * 3 := by omega
  have h2 : j * 3 + 2 < n * 3 := by omega
  have m0 : j * 3 % 3 = 0 := by omega
  have m1 : (j * 3 + 1) % 3 = 1 := by omega
  have m2 : (j * 3 + 2) % 3 = 2 := by omega
  refine ⟨?_, ?_, ?_⟩
  · simp [madeCells, h0, m0]
  · simp [madeCells, h1, m1]
  · simp [madeCells, h2, m2]
theorem Lits.set {w : World} {g n i y : Nat} {ys : List Nat} (h : Lits w g n i ys) (hi : i < n) (hy : ys[i]? = some y) : Lits (w.setCell ⟨g, i * 3 + 2, none⟩ (.int .u8 (y : Nat))) g n (i + 1) ys ∧ ∃ v, w.cell? ⟨g, i * 3 + 2, none⟩ = some v ∧ w.frozen? ⟨g, i * 3 + 2, none⟩ = false := by
  obtain ⟨cur, h1, h2, h3⟩ := h
  refine ⟨⟨_, block_set h1 _, by simpa using h2, fun j hj => ?_⟩, ?_⟩
  · obtain ⟨k0, k1, k2⟩ := h3 j hj
    refine ⟨by rw [Array.getElem?_setIfInBounds_ne (by omega)]; exact k0, by rw [Array.getElem?_setIfInBounds_ne (by omega)]; exact k1, ?_⟩
    by_cases e : j = i
    · subst e
      rw [Array.getElem?_setIfInBounds_self_of_lt (by omega), if_pos (by omega), List.getD_eq_getElem?_getD, hy]; rfl
    · rw [Array.getElem?_setIfInBounds_ne (by omega), k2]
      by_cases hji : j < i
      · rw [if_pos hji, if_pos (by omega)]
      · rw [if_neg hji, if_neg (by omega)]
  · obtain ⟨_, _, k2⟩ := h3 i hi
    rw [if_neg (Nat.lt_irrefl i)] at k2
    exact ⟨.int .u8 0, by simp [World.cell?, h1, k2], by simp [World.frozen?, h1]⟩
theorem Lits.lt {w : World} {g n i : Nat} {ys : List Nat} (h : Lits w g n i ys) : g < w.heap.size := by
  obtain ⟨cur, h1, _⟩ := h
  exact lt_of_block h1
theorem Lits.toks {w : World} {g n : Nat} {ys : List Nat} (h : Lits w g n n ys) (hl : ys.length = n) (hy : ∀ y ∈ ys, y < 256) : Toks w (some ⟨g, 0, none⟩) n (ys.map lit) := by
  obtain ⟨cur, h1, h2, h3⟩ := h
  refine ⟨by simpa using hl, fun t ht => ?_, fun _ => ⟨g, 0, rfl, fun i t ht => ?_⟩⟩
  · obtain ⟨y, hy', rfl⟩ := List.mem_map.1 ht
    have := hy y hy'
    exact ⟨by simp [lit], by simp [lit], this⟩
  · rw [List.getElem?_map, Option.map_eq_some_iff] at ht
    obtain ⟨y, hy', rfl⟩ := ht
    have hin : i < n := by have := (List.getElem?_eq_some_iff.1 hy').1; omega
    obtain ⟨k0, k1, k2⟩ := h3 i hin
    rw [if_pos hin, List.getD_eq_getElem?_getD, hy'] at k2
    refine ⟨?_, ?_, ?_⟩ <;> simp only [World.cell?, Nat.zero_add, h1]
    · exact k0
    · exact k1
    · exact k2

/-- Tokens that a call tells, in memory of its own. -/
def Finds (w : World) (ts : List Tok) (e : Ending) (w' : World) : Prop :=
  ∃ aa c, e = .returned (.slice aa ts.length c) ∧ Toks w' aa ts.length ts ∧ (∀ x, aa = some x → w.heap.size ≤ x.block) ∧ Below w.heap.size w w'

set_option maxHeartbeats 800000 in
theorem literals_any (w : World) (a : Option Addr) (n c : Nat) (ys : List Nat) (h : Bytes w a n ys) (hn : n ≤ 16777216) :
    Calls Try.prog 14 #[.slice a n c] w (Finds w (ys.map lit)) := by
  have HY := Lib.hid h
  have hmk := run_make_toks n hn
  have hb0 : Below w.heap.size w (w.alloc (.cells (madeCells #[.int .i64 0, .int .i64 0, .int .u8 0] (n * 3)) 27)) := (Below.refl _ _).alloc (Nat.le_refl _) _
  have HB0 := Lib.hid hb0
  have HL0 := Lib.hid (lits_start w n ys)
  clear h hb0
  go_enter Try.func14, Try.ntmps14
  go_wp2_with fail
  go_loopw [11] (fun cnt wr => ∃ i : Nat, i ≤ n ∧ cnt = .int .i64 i ∧ Lits wr w.heap.size n i ys ∧ Below w.heap.size w wr) (fun cnt _ => n - (intOf cnt).toNat)
  case atStart => exact ⟨0, Nat.zero_le _, rfl, HL0.out, HB0.out⟩
  case round =>
    obtain ⟨i, hi, rfl, hl, hb⟩ := hrel
    by_cases hlt : i < n
    · obtain ⟨b, off, y, rfl, hy, hyb, hc⟩ := (HY.out.later hb.block).at hlt
      obtain ⟨hset, v, hcv, hfv⟩ := hl.set hlt hy
      have X := Lib.hid (And.intro hset (hb.setCell (p := ⟨w.heap.size, i * 3 + 2, none⟩) (Nat.le_refl _) (.int .u8 (y : Nat))))
      clear hset hl hb hy
      go_wp2_with fail
      go_roundw
      case rel => exact ⟨i + 1, hlt, by go_num, X.out.1, X.out.2⟩
      case measure => simp [intOf]; omega
    · obtain rfl : i = n := by omega
      have hyl : ys.length = i := HY.out.1
      have X := Lib.hid (show Finds w (ys.map lit) (.returned (.slice (some ⟨w.heap.size, 0, none⟩) i i)) wr by
        refine ⟨_, i, by rw [List.length_map, hyl], ?_, fun x hx => by cases hx; exact Nat.le_refl _, hb⟩
        rw [List.length_map, hyl]
        exact hl.toks hyl HY.out.2.1)
      clear hl hb hyl
      go_wp2_with fail
      go_ret
      exact X.out

set_option maxHeartbeats 800000 in
theorem find_none (w : World) (a : Option Addr) (n c : Nat) (ys : List Nat) (effort : Int) (h : Bytes w a n ys) (hn : n ≤ 16777216) (he : effort ≤ 0) :
    Calls Try.prog 11 #[.slice a n c, .int .i64 effort] w (Finds w (ys.map lit)) := by
  have C := Lib.hid (literals_any w a n c ys h hn)
  have u : decide (effort ≤ 0) = true := by simpa using he
  clear h
  generalize ys.map lit = ts at *
  go_enter Try.func11, Try.ntmps11
  go_wp2_with fail
  refine C.out.mono ?_
  rintro e w1 ⟨aa, c1, rfl, h1, h2, h3⟩
  have X := Lib.hid (show Finds w ts (.returned (.slice aa ts.length c1)) w1 from ⟨aa, c1, rfl, h1, h2, h3⟩)
  clear h1 h2 h3
  go_wp2_with fail
  go_ret
  exact X.out
end Go.Proofs.Ytaandnikamnbbaa
