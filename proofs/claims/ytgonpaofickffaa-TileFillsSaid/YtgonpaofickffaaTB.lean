/- Small functions of tiles: numbers alone. -/
import Derived.Test.YtgonpaofickffaaTA
import Derived.Lib.Hide
import Derived.BigQuiet
import Derived.Deep.QuietTactic
import Derived.Deep.RegionHeld3
import Derived.Deep.RegionLaw
import Derived.Shelf.Abstract
namespace Go.Proofs.Ytgonpaofickffaa
open Go.RowKit Go.Maps
set_option linter.unusedVariables false

/-- The blocks outside S are as they were. -/
structure Keeps (S : Nat → Prop) (w w' : World) : Prop where
  os : w'.os = w.os
  tape : w'.tape = w.tape
  output : w'.output = w.output
  size : w.heap.size ≤ w'.heap.size
  block : ∀ k, k < w.heap.size → ¬ S k → w'.heap[k]? = w.heap[k]?

theorem Keeps.refl (S : Nat → Prop) (w : World) : Keeps S w w := ⟨rfl, rfl, rfl, Nat.le_refl _, fun _ _ _ => rfl⟩
theorem Keeps.trans {S S1 : Nat → Prop} {a b c : World} (h : Keeps S a b) (k : Keeps S1 b c) (hS : ∀ i, i < a.heap.size → S1 i → S i) : Keeps S a c :=
  ⟨k.os.trans h.os, k.tape.trans h.tape, k.output.trans h.output, Nat.le_trans h.size k.size,
    fun i hi hn => (k.block i (Nat.lt_of_lt_of_le hi h.size) (fun s => hn (hS i hi s))).trans (h.block i hi hn)⟩
theorem Keeps.mono {S S1 : Nat → Prop} {a b : World} (h : Keeps S a b) (hS : ∀ i, i < a.heap.size → S i → S1 i) : Keeps S1 a b :=
  ⟨h.os, h.tape, h.output, h.size, fun i hi hn => h.block i hi (fun s => hn (hS i hi s))⟩
theorem Keeps.drewN {S : Nat → Prop} {a w : World} (h : Keeps S a w) (n : Nat) : Keeps S a (w.drewN n) := ⟨h.os, h.tape, h.output, h.size, h.block⟩
theorem Keeps.drew {S : Nat → Prop} {a w : World} (h : Keeps S a w) : Keeps S a w.drew := ⟨h.os, h.tape, h.output, h.size, h.block⟩
theorem Keeps.alloc {S : Nat → Prop} {a w : World} (h : Keeps S a w) (o : Obj) : Keeps S a (w.alloc o) :=
  ⟨h.os, h.tape, h.output, by have := h.size; simp; omega, fun i hi hn => (Below.heap_alloc _ _ _ (Nat.lt_of_lt_of_le hi h.size)).trans (h.block i hi hn)⟩
theorem Keeps.setCell {S : Nat → Prop} {a w : World} (h : Keeps S a w) {p : Addr} (hp : p.block < a.heap.size → S p.block) (u : Value) : Keeps S a (w.setCell p u) :=
  ⟨h.os, h.tape, h.output, by simp [World.setCell]; exact h.size, fun i hi hn => (Below.heap_setCell _ _ _ _ (fun e => hn (by subst e; exact hp hi))).trans (h.block i hi hn)⟩
theorem Keeps.grown {S : Nat → Prop} {a w w' : World} {row : Option Nat} (h : Keeps S a w) (hg : w.grownBy w' row) (hr : ∀ k, k < a.heap.size → row = some k → S k) : Keeps S a w' :=
  ⟨hg.os.trans h.os, hg.tape.trans h.tape, hg.output.trans h.output, Nat.le_trans h.size hg.size,
    fun i hi hn => (hg.block i (Nat.lt_of_lt_of_le hi h.size) (fun e => hn (hr i hi e.symm))).trans (h.block i hi hn)⟩
theorem Keeps.below {S : Nat → Prop} {B : Nat} {w w' : World} (h : Keeps S w w') (hB : B ≤ w.heap.size) (hS : ∀ k, k < B → ¬ S k) : Below B w w' :=
  ⟨h.os, h.tape, h.output, h.size, fun k hk => h.block k (by omega) (hS k hk)⟩
/-- Nothing that was there has changed. -/
def none' : Nat → Prop := fun _ => False
theorem Keeps.later {w w' : World} (h : Keeps none' w w') : ∀ k, k < w.heap.size → w'.heap[k]? = w.heap[k]? := fun k hk => h.block k hk (fun h => h)
theorem block_set {w : World} {R i : Nat} {c : Array Value} {t : TypeId} {f : Nat × Nat} (h : w.heap[R]? = some (.cells c t f)) (u : Value) :
    (w.setCell ⟨R, i, none⟩ u).heap[R]? = some (.cells (c.setIfInBounds i u) t f) := by
  simp only [World.setCell, Array.getElem?_modify, h]
  simp
theorem wrap_i64 (z : Int) (h1 : -9223372036854775808 ≤ z) (h2 : z ≤ 9223372036854775807) : IntKind.i64.wrap z = z := by
  simp only [IntKind.wrap, IntKind.bits, IntKind.signed]
  simp
  omega

theorem wrap64_nat' (z : Int) (h1 : -9223372036854775808 ≤ z) (h2 : z ≤ 9223372036854775807) : wrap64 z = z := by
  unfold wrap64
  omega

theorem isSide_any (n : Int) (w : World) : Calls Try.prog 24 #[.int .i64 n] w fun e w' => e = .returned (.bool (decide (0 ≤ n) && decide (n ≤ 32768))) ∧ w' = w := by
  by_cases h0 : 0 ≤ n
  · have u0 : decide (n < 0) = false := by simp; omega
    have u1 : decide (0 ≤ n) = true := by simp [h0]
    go_enter Try.func24, Try.ntmps24
    go_wp2
    go_ret
    exact ⟨by simp [u1], rfl⟩
  · have u1 : decide (0 ≤ n) = false := by simp; omega
    go_enter Try.func24, Try.ntmps24
    go_wp2
    go_ret
    exact ⟨by simp, rfl⟩
theorem isPixel_any (n : Int) (w : World) : Calls Try.prog 31 #[.int .i64 n] w fun e w' => e = .returned (.bool (decide (0 ≤ n) && decide (n ≤ 4294967295))) ∧ w' = w := by
  by_cases h0 : 0 ≤ n
  · have u1 : decide (0 ≤ n) = true := by simp [h0]
    go_enter Try.func31, Try.ntmps31
    go_wp2
    go_ret
    exact ⟨by simp [u1], rfl⟩
  · have u1 : decide (0 ≤ n) = false := by simp; omega
    go_enter Try.func31, Try.ntmps31
    go_wp2
    go_ret
    exact ⟨by simp, rfl⟩
theorem onSide_any (n side : Int) (w : World) : Calls Try.prog 41 #[.int .i64 n, .int .i64 side] w fun e w' => e = .returned (.int .i64 (min (max n 0) side)) ∧ w' = w := by
  go_enter Try.func41, Try.ntmps41
  go_wp2
  all_goals (go_ret; refine ⟨?_, rfl⟩; simp; omega)
theorem count_any (f t : Nat) (hf : f ≤ 1048576) (ht : t ≤ 1048576) (w : World) : Calls Try.prog 51 #[.agg #[.int .i64 (f : Int), .int .i64 (t : Int)]] w fun e w' => e = .returned (.int .i64 ((t - f : Nat) : Int)) ∧ w' = w.alloc (.cells #[.int .i64 (f : Int), .int .i64 (t : Int)] 79) := by
  have h1 : wrap64 ((t : Int) - (f : Int)) = (t : Int) - (f : Int) := wrap64_nat' _ (by omega) (by omega)
  go_enter Try.func51, Try.ntmps51
  go_wp2
  all_goals (go_ret; refine ⟨?_, rfl⟩; simp; omega)
theorem placeOf_any (x y : Nat) (hx : x ≤ 1048576) (hy : y ≤ 1048576) (w : World) : Calls Try.prog 29 #[.int .i64 (x : Int), .int .i64 (y : Int)] w fun e w' => e = .returned (keyV (x / 16) (y / 16)) ∧ Keeps none' w w' := by
  have e1 : wrap64 ((x : Int) / 16) = (x : Int) / 16 := wrap64_nat' _ (by omega) (by omega)
  have e2 : wrap64 ((y : Int) / 16) = (y : Int) / 16 := wrap64_nat' _ (by omega) (by omega)
  go_enter Try.func29, Try.ntmps29
  go_wp2
  refine bodyPost_ret (results_cell_row rfl _ _ w.heap.size 70 #[.int .i64 (↑x / 16), .int .i64 (↑y / 16)] (0, 0) _ rfl (heap_alloc_new _ _) Try.underlying70 rfl (by kernel_rfl)) rfl ?_
  exact ⟨rfl, (Keeps.refl _ _).alloc _⟩
/-- A stretch, as far as it lies on a side. -/
def clip (first n side : Int) : Int × Int := (min (max first 0) side, min (max (first + min (max n 0) (9223372036854775807 - max first 0)) 0) side)
theorem spanOf_any (first n side : Int) (h1 : -9223372036854775808 ≤ first) (h2 : first ≤ 9223372036854775807) (hs : 0 ≤ side) (w : World) :
    Calls Try.prog 34 #[.int .i64 first, .int .i64 n, .int .i64 side] w fun e w' => e = .returned (.agg #[.int .i64 (clip first n side).1, .int .i64 (clip first n side).2]) ∧ Keeps none' w w' := by
  obtain ⟨a, ha⟩ : ∃ a, a = max first 0 := ⟨_, rfl⟩
  obtain ⟨b, hb⟩ : ∃ b, b = max n 0 := ⟨_, rfl⟩
  obtain ⟨c, hc⟩ : ∃ c, c = min b (9223372036854775807 - a) := ⟨_, rfl⟩
  have m1 : (if first < 0 then (0 : Int) else first) = a := by omega
  have m2 : (if n < 0 then (0 : Int) else n) = b := by omega
  have m3 : (if 9223372036854775807 - a < b then 9223372036854775807 - a else b) = c := by omega
  have e1 : wrap64 (9223372036854775807 - a) = 9223372036854775807 - a := wrap64_nat' _ (by omega) (by omega)
  have e2 : wrap64 (first + c) = first + c := wrap64_nat' _ (by omega) (by omega)
  have C1 := Lib.hid (onSide_any first side)
  have C2 := Lib.hid (onSide_any (first + c) side)
  unfold clip
  rw [← ha, ← hb, ← hc]
  clear ha hb hc
  go_enter Try.func34, Try.ntmps34
  go_wp2_with fail
  refine (C1.out _).mono ?_
  rintro e w' ⟨rfl, rfl⟩
  go_wp2_with fail
  refine (C2.out _).mono ?_
  rintro e w' ⟨rfl, rfl⟩
  go_wp2_with fail
  refine bodyPost_ret (results_cell_row rfl _ _ w.heap.size 79 #[.int .i64 (min (max first 0) side), .int .i64 (min (max (first + c) 0) side)] (0, 0) _ rfl (heap_alloc_new _ _) Try.underlying79 rfl (by kernel_rfl)) rfl ?_
  exact ⟨by rw [show max first 0 = a by omega], (Keeps.refl _ _).alloc _⟩
/-- The stretch's numbers in a tile. -/
def inTile (f t n : Nat) : Int × Int := (((f - n * 16 : Nat) : Int), min ((t : Int) - (n : Int) * 16) 16)
theorem within_any (f t n : Nat) (hf : f ≤ 1048576) (ht : t ≤ 1048576) (hn : n ≤ 1048576) (w : World) :
    Calls Try.prog 44 #[.agg #[.int .i64 (f : Int), .int .i64 (t : Int)], .int .i64 (n : Int)] w fun e w' => e = .returned (.agg #[.int .i64 (inTile f t n).1, .int .i64 (inTile f t n).2]) ∧ Keeps none' w w' := by
  obtain ⟨a, ha⟩ : ∃ a : Int, a = ((f - n * 16 : Nat) : Int) := ⟨_, rfl⟩
  obtain ⟨b, hb⟩ : ∃ b, b = min ((t : Int) - (n : Int) * 16) 16 := ⟨_, rfl⟩
  have e2 : wrap64 ((f : Int) - (n : Int) * 16) = (f : Int) - (n : Int) * 16 := wrap64_nat' _ (by omega) (by omega)
  have e3 : wrap64 ((t : Int) - (n : Int) * 16) = (t : Int) - (n : Int) * 16 := wrap64_nat' _ (by omega) (by omega)
  have m1 : (if (f : Int) - (n : Int) * 16 < 0 then (0 : Int) else (f : Int) - (n : Int) * 16) = a := by omega
  have m2 : (if 16 < (t : Int) - (n : Int) * 16 then (16 : Int) else (t : Int) - (n : Int) * 16) = b := by omega
  unfold inTile
  rw [← ha, ← hb]
  clear ha hb
  go_enter Try.func44, Try.ntmps44
  go_wp2_with fail
  refine bodyPost_ret (results_cell_row rfl _ _ (w.heap.size + 1) 79 #[.int .i64 a, .int .i64 b] (0, 0) _ rfl ?_ Try.underlying79 rfl (by kernel_rfl)) rfl ?_
  · have := heap_alloc_new (w.alloc (.cells #[.int .i64 (f : Int), .int .i64 (t : Int)] 79)) (.cells #[.int .i64 a, .int .i64 b] 79)
    simpa using this
  · exact ⟨rfl, ((Keeps.refl _ _).alloc _).alloc _⟩
theorem heap_second (w : World) (a b c : Obj) : (((w.alloc a).alloc b).alloc c).heap[w.heap.size + 1]? = some b := by
  rw [Below.heap_alloc _ _ _ (by simp)]
  have := heap_alloc_new (w.alloc a) b
  simpa using this
theorem Keeps.cell {w w' : World} (h : Keeps none' w w') {p : Addr} {v : Value} (hc : w.cell? p = some v) : w'.cell? p = some v :=
  (World.cell?_of_block (w := w) (h.later _ (World.block_lt_of_cell? w _ hc))).trans hc
theorem cell_at {w : World} {c : Array Value} {t : TypeId} {i : Nat} {v : Value} (h : c[i]? = some v) : (w.alloc (.cells c t)).cell? ⟨w.heap.size, i, none⟩ = some v := by
  rw [World.cell?_alloc_at c t _ i rfl, h]
theorem tiles_any (f t : Nat) (hf : f ≤ 1048576) (ht : t ≤ 1048576) (w : World) :
    Calls Try.prog 50 #[.agg #[.int .i64 (f : Int), .int .i64 (t : Int)]] w fun e w' => e = .returned (.agg #[.int .i64 ((if t - f = 0 then 0 else f / 16 : Nat) : Int), .int .i64 ((if t - f = 0 then 0 else (t - 1) / 16 + 1 : Nat) : Int)]) ∧ Keeps none' w w' := by
  have C := Lib.hid (count_any f t hf ht)
  by_cases h0 : t - f = 0
  · rw [if_pos h0, if_pos h0]
    rw [h0] at C
    go_enter Try.func50, Try.ntmps50
    go_wp2_with fail
    refine (C.out _).mono ?_
    rintro e w' ⟨rfl, rfl⟩
    go_wp2_with fail
    refine bodyPost_ret (results_cell_row rfl _ _ (w.heap.size + 1) 79 #[.int .i64 0, .int .i64 0] (0, 0) _ rfl ?_ Try.underlying79 rfl (by kernel_rfl)) rfl ?_
    · exact heap_second w _ _ _
    · exact ⟨rfl, (((Keeps.refl _ _).alloc _).alloc _).alloc _⟩
  · rw [if_neg h0, if_neg h0]
    obtain ⟨c, hc⟩ : ∃ c, c = t - f := ⟨_, rfl⟩
    rw [← hc] at C
    have u0 : ((c : Int) == 0) = false := by simp; omega
    have e4 : wrap64 (((t : Int) - 1).tdiv 16 + 1) = (((t - 1) / 16 + 1 : Nat) : Int) := by
      rw [show ((t : Int) - 1) = ((t - 1 : Nat) : Int) by omega, show ((t - 1 : Nat) : Int).tdiv 16 = (((t - 1) / 16 : Nat) : Int) from rfl, wrap64_nat' _ (by omega) (by omega)]
      omega
    clear hc h0
    go_enter Try.func50, Try.ntmps50
    go_wp2_with fail
    refine (C.out _).mono ?_
    rintro e w' ⟨rfl, rfl⟩
    go_wp2_with fail
    refine bodyPost_ret (results_cell_row rfl _ _ (w.heap.size + 1) 79 #[.int .i64 ((f : Int) / 16), .int .i64 (((t - 1) / 16 + 1 : Nat) : Int)] (0, 0) _ rfl ?_ Try.underlying79 rfl (by kernel_rfl)) rfl ?_
    · exact heap_second w _ _ _
    · exact ⟨rfl, (((Keeps.refl _ _).alloc _).alloc _).alloc _⟩
/-- An area, as a value. -/
def areaV (xf xt yf yt : Int) : Value := .agg #[.int .i64 xf, .int .i64 xt, .int .i64 yf, .int .i64 yt]
theorem mul_small (m n : Nat) (h : m * n ≤ 2048 * 2048) : wrap64 ((m : Int) * (n : Int)) = ((m * n : Nat) : Int) ∧ IntKind.i64.wrap ((m : Int) * (n : Int)) = ((m * n : Nat) : Int) := by
  rw [← Int.natCast_mul]
  generalize m * n = z at h
  exact ⟨wrap64_nat' _ (by omega) (by omega), wrap_i64 _ (by omega) (by omega)⟩
set_option maxHeartbeats 1600000 in
theorem areaTiles_any (xf xt yf yt : Nat) (h1 : xf ≤ 32768) (h2 : xt ≤ 32768) (h3 : yf ≤ 32768) (h4 : yt ≤ 32768) (w : World) :
    Calls Try.prog 47 #[.agg #[.int .i64 (xf : Int), .int .i64 (xt : Int), .int .i64 (yf : Int), .int .i64 (yt : Int)]] w fun e w' => (∃ n : Nat, n ≤ 4194304 ∧ e = .returned (.int .i64 (n : Int))) ∧ Keeps none' w w' := by
  have C1 := Lib.hid (tiles_any xf xt (by omega) (by omega))
  have C2 := Lib.hid (tiles_any yf yt (by omega) (by omega))
  obtain ⟨a, ha⟩ : ∃ a, a = (if xt - xf = 0 then 0 else xf / 16) := ⟨_, rfl⟩
  obtain ⟨b, hb⟩ : ∃ b, b = (if xt - xf = 0 then 0 else (xt - 1) / 16 + 1) := ⟨_, rfl⟩
  obtain ⟨c, hc⟩ : ∃ c, c = (if yt - yf = 0 then 0 else yf / 16) := ⟨_, rfl⟩
  obtain ⟨d, hd⟩ : ∃ d, d = (if yt - yf = 0 then 0 else (yt - 1) / 16 + 1) := ⟨_, rfl⟩
  rw [← ha, ← hb] at C1
  rw [← hc, ← hd] at C2
  have hb2 : b ≤ 2048 := by rw [hb]; split <;> omega
  have hd2 : d ≤ 2048 := by rw [hd]; split <;> omega
  have ha2 : a ≤ 2048 := by rw [ha]; split <;> omega
  have hc2 : c ≤ 2048 := by rw [hc]; split <;> omega
  have C3 := Lib.hid (count_any a b (by omega) (by omega))
  have C4 := Lib.hid (count_any c d (by omega) (by omega))
  obtain ⟨m, hm⟩ : ∃ m, m = b - a := ⟨_, rfl⟩
  obtain ⟨n, hn⟩ : ∃ n, n = d - c := ⟨_, rfl⟩
  rw [← hm] at C3
  rw [← hn] at C4
  have hmn : m * n ≤ 2048 * 2048 := Nat.mul_le_mul (by omega) (by omega)
  obtain ⟨e1, e2⟩ := mul_small m n hmn
  have PO := Lib.hid (show m * n ≤ 4194304 from hmn)
  clear ha hb hc hd hb2 hd2 ha2 hc2 hm hn hmn
  go_enter Try.func47, Try.ntmps47
  go_wp2_with fail
  have W0 := Lib.hid ((Keeps.refl none' w).alloc (.cells #[.int .i64 (xf : Int), .int .i64 (xt : Int), .int .i64 (yf : Int), .int .i64 (yt : Int)] 82))
  have x0 := cell_at (w := w) (c := #[.int .i64 (xf : Int), .int .i64 (xt : Int), .int .i64 (yf : Int), .int .i64 (yt : Int)]) (t := 82) (i := 0) rfl
  have x1 := cell_at (w := w) (c := #[.int .i64 (xf : Int), .int .i64 (xt : Int), .int .i64 (yf : Int), .int .i64 (yt : Int)]) (t := 82) (i := 1) rfl
  have x2 := cell_at (w := w) (c := #[.int .i64 (xf : Int), .int .i64 (xt : Int), .int .i64 (yf : Int), .int .i64 (yt : Int)]) (t := 82) (i := 2) rfl
  have x3 := cell_at (w := w) (c := #[.int .i64 (xf : Int), .int .i64 (xt : Int), .int .i64 (yf : Int), .int .i64 (yt : Int)]) (t := 82) (i := 3) rfl
  generalize w.alloc (.cells #[.int .i64 (xf : Int), .int .i64 (xt : Int), .int .i64 (yf : Int), .int .i64 (yt : Int)] 82) = w1 at *
  generalize w.heap.size = B at *
  have OW := Lib.hid (Keeps.refl none' w1)
  have OD := Lib.hid ((Keeps.refl none' w1).drew)
  have CALL : ∀ (f : Nat) (args : Array Value) (r : Value), (∀ w, Calls Try.prog f args w fun e w' => e = .returned r ∧ Keeps none' w w') → ∀ w', (w'.cell? ⟨B, 0, none⟩ = some (.int .i64 (xf : Int)) ∧ w'.cell? ⟨B, 1, none⟩ = some (.int .i64 (xt : Int)) ∧ w'.cell? ⟨B, 2, none⟩ = some (.int .i64 (yf : Int)) ∧ w'.cell? ⟨B, 3, none⟩ = some (.int .i64 (yt : Int)) ∧ Keeps none' w1 w') →
      Calls Try.prog f args w' fun e w'' => e = .returned r ∧ (w''.cell? ⟨B, 0, none⟩ = some (.int .i64 (xf : Int)) ∧ w''.cell? ⟨B, 1, none⟩ = some (.int .i64 (xt : Int)) ∧ w''.cell? ⟨B, 2, none⟩ = some (.int .i64 (yf : Int)) ∧ w''.cell? ⟨B, 3, none⟩ = some (.int .i64 (yt : Int)) ∧ Keeps none' w1 w'') := by
    intro f args r hc w' hS
    refine (hc w').mono ?_
    rintro e w'' ⟨rfl, hk⟩
    exact ⟨rfl, hk.cell hS.1, hk.cell hS.2.1, hk.cell hS.2.2.1, hk.cell hS.2.2.2.1, hS.2.2.2.2.trans hk (fun _ _ h => h)⟩
  have D1 := Lib.hid (CALL _ _ _ C1.out)
  have D2 := Lib.hid (CALL _ _ _ C2.out)
  have D3 := Lib.hid (CALL _ _ _ (fun w => (C3.out w).mono (fun e w' h => ⟨h.1, by rw [h.2]; exact (Keeps.refl _ _).alloc _⟩)))
  have D4 := Lib.hid (CALL _ _ _ (fun w => (C4.out w).mono (fun e w' h => ⟨h.1, by rw [h.2]; exact (Keeps.refl _ _).alloc _⟩)))
  clear CALL C1 C2 C3 C4
  go_region_held3 (fun w' => w'.cell? ⟨B, 0, none⟩ = some (.int .i64 (xf : Int)) ∧ w'.cell? ⟨B, 1, none⟩ = some (.int .i64 (xt : Int)) ∧ w'.cell? ⟨B, 2, none⟩ = some (.int .i64 (yf : Int)) ∧ w'.cell? ⟨B, 3, none⟩ = some (.int .i64 (yt : Int)) ∧ Keeps none' w1 w') (first | exact ⟨x0, x1, x2, x3, OW.out⟩ | exact ⟨x0, x1, x2, x3, OD.out⟩ | (refine ⟨‹_›, ‹_›, ‹_›, ‹_›, ‹_›⟩) | go_keep) (first | (go_at_call_of 50 (xt); refine (D1.out _ ⟨‹_›, ‹_›, ‹_›, ‹_›, ‹_›⟩).mono ?_; rintro e w' ⟨rfl, k0, k1, k2, k3, k4⟩) | (go_at_call_of 50 (yt); refine (D2.out _ ⟨‹_›, ‹_›, ‹_›, ‹_›, ‹_›⟩).mono ?_; rintro e w' ⟨rfl, k0, k1, k2, k3, k4⟩) | (go_at_call_of 51 (b); refine (D3.out _ ⟨‹_›, ‹_›, ‹_›, ‹_›, ‹_›⟩).mono ?_; rintro e w' ⟨rfl, k0, k1, k2, k3, k4⟩) | (go_at_call_of 51 (d); refine (D4.out _ ⟨‹_›, ‹_›, ‹_›, ‹_›, ‹_›⟩).mono ?_; rintro e w' ⟨rfl, k0, k1, k2, k3, k4⟩))
  go_wp2_with fail
  go_ret
  exact ⟨⟨m * n, PO.out, by simp [Int.natCast_mul]⟩, W0.out.trans k4 (fun _ _ h => h)⟩
/-- A call as a step of a region that draws. -/
theorem step_call {w : World} {ops : Array Oper} {o : Oper} {a : Act} {K : Act → World → Prop} {Q : Exit → Act → World → Prop} {E : Prop} (hgd : o.guard = none) (f : Nat) (xs : Array Operand) (ts : Array TypeId) (ho : o.op = .call { callee := .value (.func f), args := xs, argTypes := ts })
    (hcf : ∀ vs w, (callFunc f vs).run Try.prog w = .ok (.enter f vs) w) (vs : Array Value) (hv : xs.toList.map a.eval = vs.toList) (v : Value) (X : World → Prop) (C : Calls Try.prog f vs w fun e w' => e = .returned v ∧ X w') (h : ∀ w', X w' → K (a.put o.dst v) w') :
    if Region.wanted o (yielded ops a.tmps) = true then Oper.wp Try.prog o a w K Q else E := by
  have hw : Region.wanted o (yielded ops a.tmps) = true := by simp [Region.wanted, hgd]
  rw [if_pos hw]
  have hv2 : xs.map a.eval = vs := Array.toList_inj.1 (by rw [Array.toList_map]; exact hv)
  unfold Oper.wp
  have e : (execOp a.eval o).run Try.prog w = .ok (.enter f (xs.map a.eval)) w := by
    unfold execOp
    simp [ho, resolve, invoke, Act.eval, Deferred.ofValue]
    exact hcf _ _
  rw [e, Oper.upon_enter, hv2]
  refine C.mono ?_
  rintro e w' ⟨rfl, hx⟩
  exact h w' hx
/-- A call that makes memory alone, in a world that holds all that was there. -/
theorem later_call {w1 : World} {f : Nat} {args : Array Value} {r : Value} (C : ∀ w, Calls Try.prog f args w fun e w' => e = .returned r ∧ Keeps none' w w') :
    ∀ w', Keeps none' w1 w' → Calls Try.prog f args w' fun e w'' => e = .returned r ∧ Keeps none' w1 w'' := by
  intro w' h
  refine (C w').mono ?_
  rintro e w'' ⟨rfl, hk⟩
  exact ⟨rfl, h.trans hk (fun _ _ h => h)⟩
end Go.Proofs.Ytgonpaofickffaa
