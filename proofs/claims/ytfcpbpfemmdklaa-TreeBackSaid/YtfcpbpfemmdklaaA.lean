/- What stays in memory; rows of cells; copies of rows. (printed by genTA.py) -/
import Derived.Test.YtfcpbpfemmdklaaProg
import Derived.WalkKit
import Derived.WalkLawsBesides
import Derived.OneCell
import Derived.Outline
import Derived.Lib.Hide
import Derived.StillTailTactics
import Derived.BigQuiet
import Derived.BigRegion
import Derived.LoopTactic
import Derived.RegionTactic
import Derived.Deep.DeepMust
import Derived.Deep.QuietTactic
import Derived.Deep.LoopGhost
import Derived.Deep.OwnRows
import Derived.Deep.RegionHeld3
import Derived.Deep.RegionLaw
import Derived.Deep.Cut
import Derived.Maps.AppendAt
import Derived.Laws.AppendOwnNone
import Derived.OwnWalk
import Derived.Laws.MakeOwn
import Derived.Laws.CopyOwn
namespace Go.Proofs.Ytfcpbpfemmdklaa
open Go.RowKit
set_option linter.unusedSimpArgs false
set_option linter.unusedVariables false

theorem wrap_i64 (n : Int) (h0 : -9223372036854775808 ≤ n) (h1 : n ≤ 9223372036854775807) : IntKind.i64.wrap n = n := by
  simp [IntKind.wrap, IntKind.bits, IntKind.signed]
  omega
theorem lt_of_block {w : World} {R : Nat} {o : Obj} (h : w.heap[R]? = some o) : R < w.heap.size := by
  obtain ⟨h, -⟩ := Array.getElem?_eq_some_iff.1 h
  exact h
/-- The blocks outside S are as they were. -/
structure Keeps (S : Nat → Prop) (w w' : World) : Prop where
  os : w'.os = w.os
  tape : w'.tape = w.tape
  output : w'.output = w.output
  size : w.heap.size ≤ w'.heap.size
  block : ∀ k, k < w.heap.size → ¬ S k → w'.heap[k]? = w.heap[k]?

theorem Keeps.refl (S : Nat → Prop) (w : World) : Keeps S w w := ⟨rfl, rfl, rfl, Nat.le_refl _, fun _ _ _ => rfl⟩
theorem Keeps.trans {S S1 : Nat → Prop} {a b c : World} (h : Keeps S a b) (k : Keeps S1 b c) (hS : ∀ i, i < a.heap.size → S1 i → S i) : Keeps S a c :=
  ⟨k.os.trans h.os, k.tape.trans h.tape, k.output.trans h.output, Nat.le_trans h.size k.size,
    fun i hi hn => (k.block i (Nat.lt_of_lt_of_le hi h.size) (fun s => hn (hS i hi s))).trans (h.block i hi hn)⟩
theorem Keeps.drewN {S : Nat → Prop} {a w : World} (h : Keeps S a w) (n : Nat) : Keeps S a (w.drewN n) := ⟨h.os, h.tape, h.output, h.size, h.block⟩
theorem Keeps.drew {S : Nat → Prop} {a w : World} (h : Keeps S a w) : Keeps S a w.drew := ⟨h.os, h.tape, h.output, h.size, h.block⟩
theorem Keeps.alloc {S : Nat → Prop} {a w : World} (h : Keeps S a w) (o : Obj) : Keeps S a (w.alloc o) :=
  ⟨h.os, h.tape, h.output, by have := h.size; simp; omega, fun i hi hn => (Below.heap_alloc _ _ _ (Nat.lt_of_lt_of_le hi h.size)).trans (h.block i hi hn)⟩
theorem Keeps.setCell {S : Nat → Prop} {a w : World} (h : Keeps S a w) {p : Addr} (hp : p.block < a.heap.size → S p.block) (u : Value) : Keeps S a (w.setCell p u) :=
  ⟨h.os, h.tape, h.output, by simp [World.setCell]; exact h.size, fun i hi hn => (Below.heap_setCell _ _ _ _ (fun e => hn (by subst e; exact hp hi))).trans (h.block i hi hn)⟩
theorem Keeps.below {S : Nat → Prop} {B : Nat} {w w' : World} (h : Keeps S w w') (hB : B ≤ w.heap.size) (hS : ∀ k, k < B → ¬ S k) : Below B w w' :=
  ⟨h.os, h.tape, h.output, h.size, fun k hk => h.block k (by omega) (hS k hk)⟩
/-- Nothing that was there has changed. -/
def none' : Nat → Prop := fun _ => False
theorem Keeps.later {w w' : World} (h : Keeps none' w w') : ∀ k, k < w.heap.size → w'.heap[k]? = w.heap[k]? := fun k hk => h.block k hk (fun h => h)
theorem Keeps.next {a b c : World} (h : Keeps none' a b) (k : Keeps none' b c) : Keeps none' a c := h.trans k (fun _ _ h => h)
theorem block_set {w : World} {R i : Nat} {c : Array Value} {t : TypeId} {f : Nat × Nat} (h : w.heap[R]? = some (.cells c t f)) (u : Value) :
    (w.setCell ⟨R, i, none⟩ u).heap[R]? = some (.cells (c.setIfInBounds i u) t f) := by
  simp only [World.setCell, Array.getElem?_modify, h]
  simp
theorem Keeps.cell {w w' : World} (h : Keeps none' w w') {p : Addr} {v : Value} (hc : w.cell? p = some v) : w'.cell? p = some v := by
  have hb := World.block_lt_of_cell? w _ hc
  exact (World.cell?_of_block (w := w) (h.later p.block hb)).trans hc
theorem add_spot (b off j : Nat) : ((⟨b, off, none⟩ : Addr).add j) = ⟨b, off + j, none⟩ := by
  unfold Addr.add
  split
  · rename_i h; subst h; rfl
  · rfl
theorem Keeps.grown {S : Nat → Prop} {w w1 w2 : World} (h : Keeps S w w1) {b : Option Nat} (g : w1.grownBy w2 b) (hb : ∀ q, q < w.heap.size → b = some q → S q) : Keeps S w w2 :=
  ⟨g.os.trans h.os, g.tape.trans h.tape, g.output.trans h.output, Nat.le_trans h.size g.size,
    fun i hi hn => (g.block i (Nat.lt_of_lt_of_le hi h.size) (fun e => hn (hb i hi e.symm))).trans (h.block i hi hn)⟩
/-- A slice's header. -/
structure Hd where
  a : Option Addr
  n : Nat
  c : Nat
def Hd.nil : Hd := ⟨none, 0, 0⟩
/-- What stands in a slice whose elements are of k cells each. -/
structure Cells (k : Nat) (w : World) (h : Hd) (vs : List Value) : Prop where
  len : vs.length = h.n * k
  cap : h.n ≤ h.c
  abs : h.a = none → h.n = 0 ∧ h.c = 0
  one : ∀ u ∈ vs, u.oneCell' = true
  at' : ∀ x, h.a = some x → x.spot = none ∧ x.block < w.heap.size ∧ ∀ j u, vs[j]? = some u → w.cell? ⟨x.block, x.off + j, none⟩ = some u
theorem Cells.keep {X : Nat → Prop} {k : Nat} {w w' : World} {h : Hd} {vs : List Value} (c : Cells k w h vs) (kk : Keeps X w w') (hX : ∀ x, h.a = some x → ¬ X x.block) : Cells k w' h vs := by
  refine ⟨c.len, c.cap, c.abs, c.one, fun x hx => ?_⟩
  obtain ⟨h1, h2, h3⟩ := c.at' x hx
  refine ⟨h1, Nat.lt_of_lt_of_le h2 kk.size, fun j u hj => ?_⟩
  have e : w'.cell? ⟨x.block, x.off + j, Option.none⟩ = w.cell? ⟨x.block, x.off + j, Option.none⟩ := World.cell?_of_block (kk.block x.block h2 (hX x hx))
  exact e.trans (h3 j u hj)
theorem Cells.later {k : Nat} {w w' : World} {h : Hd} {vs : List Value} (c : Cells k w h vs) (kk : Keeps none' w w') : Cells k w' h vs := c.keep kk (fun _ _ h => h)
theorem Cells.nil (k : Nat) (w : World) : Cells k w Hd.nil [] := ⟨by simp [Hd.nil], Nat.le_refl _, fun _ => ⟨rfl, rfl⟩, fun u hu => (by cases hu), fun x hx => (by cases hx)⟩
/-- A row of the call's own is a row. -/
theorem own_cells {w : World} {N e k n : Nat} {v : Value} {vs : List Value} (h : w.ownsRow N e k v n vs) (h1 : ∀ u ∈ vs, u.oneCell' = true) : ∃ hd : Hd, v = (.slice hd.a hd.n hd.c) ∧ hd.n = n ∧ Cells k w hd vs ∧ ∀ x, hd.a = some x → N ≤ x.block ∧ x.off = 0 := by
  obtain ⟨hl, h2⟩ := h
  rcases h2 with ⟨rfl, rfl⟩ | ⟨g, cap, cur, rfl, hB, hh, p1, p2, p3, p4⟩
  · exact ⟨Hd.nil, rfl, rfl, ⟨by simpa [Hd.nil] using hl, Nat.le_refl _, fun _ => ⟨rfl, rfl⟩, h1, fun x hx => (by cases hx)⟩, fun x hx => (by cases hx)⟩
  · refine ⟨⟨some ⟨g, 0, none⟩, n, cap⟩, rfl, rfl, ⟨hl, p1, fun h => (by cases h), h1, fun x hx => ?_⟩, fun x hx => ?_⟩
    · cases hx
      refine ⟨rfl, lt_of_block hh, fun j u hj => ?_⟩
      simp only [Nat.zero_add]
      rw [cell_of_row _ _ _ _ _ _ hh]
      have hjl : j < vs.length := (List.getElem?_eq_some_iff.1 hj).1
      rw [← p4, List.getElem?_take_of_lt (by omega)] at hj
      rw [← Array.getElem?_toList]
      exact hj
    · cases hx
      exact ⟨hB, rfl⟩
theorem info3 : (Try.prog.info? 3).map (fun i => (i.zero, i.size, i.bytes)) = some (some (.int .i64 0), 1, 8) := by kernel_rfl
set_option maxHeartbeats 800000 in
theorem clone_ints (h : Hd) (vs : List Value) (w : World) (hc : Cells 1 w h vs) (hn : h.n ≤ 536870912) :
    Calls Try.prog 41 #[(.slice h.a h.n h.c)] w fun e w' => ∃ v', e = .returned v' ∧ w'.ownsRow w.heap.size 3 1 v' h.n vs ∧ Keeps none' w w' := by
  obtain ⟨a, n, c⟩ := h
  obtain ⟨hl, hcap, hnone, hone, hat⟩ := hc
  simp only at hl hcap hnone hn
  obtain ⟨i0, hi, hz0, hz1, hz2⟩ := info_parts info3
  have q := fun (w : World) (a : Option Addr) (n c n' c' : Nat) => Lib.run_eql_slice_nil (P := Try.prog) w 30 3 a n c n' c' Try.underlying30
  cases a with
  | none =>
    obtain ⟨rfl, rfl⟩ := hnone rfl
    obtain rfl : vs = [] := List.eq_nil_of_length_eq_zero (by omega)
    clear hat hone hl hcap hnone
    go_enter Try.func41, Try.ntmps41
    go_wp2_with fail
    go_ret
    exact ⟨_, rfl, ⟨by simp, .inl ⟨rfl, rfl⟩⟩, Keeps.refl _ _⟩
  | some x =>
    obtain ⟨h1, h2, h3⟩ := hat x rfl
    obtain ⟨b, off, sp⟩ := x
    simp only at h1 h2 h3
    subst h1
    have A := Lib.hid h3
    clear hat h3 hcap hnone
    go_enter Try.func41, Try.ntmps41
    go_wp2_with (at_builtin; refine wpList_append_own _ rfl _ _ 30 rfl w.heap.size 3 i0 _ 1 8 Try.underlying30 hi hz0 hz1 hz2 (by decide) (by decide) _ _ _ rfl (World.ownsRow_made w #[] 0 (Nat.le_refl _) (Nat.zero_le _) (by simp)) ⟨b, off, none⟩ n c vs rfl ?qc1 ?qc2 ?qc3 ?qc4 ?qc5 ?qc6 ?_)
    case qc1 => exact hl
    case qc2 =>
      intro j u hj
      rw [add_spot]
      exact ((Keeps.refl none' w).alloc _).cell (A.out j u hj)
    case qc3 => exact hone
    case qc4 => unfold maxLen; omega
    case qc5 => omega
    case qc6 => simp
    intro v' w1 hown hgrow hnil
    have K := Lib.hid (Keeps.grown ((Keeps.refl none' w).alloc (.cells #[] 3)) hgrow (fun q hq e => by simp [Value.ownBlock] at e; omega))
    go_wp2_with fail
    go_ret
    exact ⟨v', rfl, by simpa using hown, K.out⟩
theorem info5 : (Try.prog.info? 5).map (fun i => (i.zero, i.size, i.bytes)) = some (some (.int .u8 0), 1, 1) := by kernel_rfl
set_option maxHeartbeats 800000 in
theorem clone_bytes (h : Hd) (vs : List Value) (w : World) (hc : Cells 1 w h vs) (hn : h.n ≤ 536870912) :
    Calls Try.prog 42 #[(.slice h.a h.n h.c)] w fun e w' => ∃ v', e = .returned v' ∧ w'.ownsRow w.heap.size 5 1 v' h.n vs ∧ Keeps none' w w' := by
  obtain ⟨a, n, c⟩ := h
  obtain ⟨hl, hcap, hnone, hone, hat⟩ := hc
  simp only at hl hcap hnone hn
  obtain ⟨i0, hi, hz0, hz1, hz2⟩ := info_parts info5
  have q := fun (w : World) (a : Option Addr) (n c n' c' : Nat) => Lib.run_eql_slice_nil (P := Try.prog) w 46 5 a n c n' c' Try.underlying46
  cases a with
  | none =>
    obtain ⟨rfl, rfl⟩ := hnone rfl
    obtain rfl : vs = [] := List.eq_nil_of_length_eq_zero (by omega)
    clear hat hone hl hcap hnone
    go_enter Try.func42, Try.ntmps42
    go_wp2_with fail
    go_ret
    exact ⟨_, rfl, ⟨by simp, .inl ⟨rfl, rfl⟩⟩, Keeps.refl _ _⟩
  | some x =>
    obtain ⟨h1, h2, h3⟩ := hat x rfl
    obtain ⟨b, off, sp⟩ := x
    simp only at h1 h2 h3
    subst h1
    have A := Lib.hid h3
    clear hat h3 hcap hnone
    go_enter Try.func42, Try.ntmps42
    go_wp2_with (at_builtin; refine wpList_append_own _ rfl _ _ 46 rfl w.heap.size 5 i0 _ 1 1 Try.underlying46 hi hz0 hz1 hz2 (by decide) (by decide) _ _ _ rfl (World.ownsRow_made w #[] 0 (Nat.le_refl _) (Nat.zero_le _) (by simp)) ⟨b, off, none⟩ n c vs rfl ?qc1 ?qc2 ?qc3 ?qc4 ?qc5 ?qc6 ?_)
    case qc1 => exact hl
    case qc2 =>
      intro j u hj
      rw [add_spot]
      exact ((Keeps.refl none' w).alloc _).cell (A.out j u hj)
    case qc3 => exact hone
    case qc4 => unfold maxLen; omega
    case qc5 => omega
    case qc6 => simp
    intro v' w1 hown hgrow hnil
    have K := Lib.hid (Keeps.grown ((Keeps.refl none' w).alloc (.cells #[] 5)) hgrow (fun q hq e => by simp [Value.ownBlock] at e; omega))
    go_wp2_with fail
    go_ret
    exact ⟨v', rfl, by simpa using hown, K.out⟩
theorem info48 : (Try.prog.info? 48).map (fun i => (i.zero, i.size, i.bytes)) = some (some (.agg #[.int .i64 0, .int .i64 0, .bool false, .int .i64 0, .int .i64 0, .int .i64 0, .int .i64 0, .slice none 0 0, .slice none 0 0, .int .i64 0, .int .i64 0, .int .i64 0, .int .i64 0, .int .i64 0, .int .i64 0, .bool false, .int .i64 0, .slice none 0 0, .slice none 0 0]), 19, 216) := by kernel_rfl
set_option maxHeartbeats 800000 in
theorem clone_layers (h : Hd) (vs : List Value) (w : World) (hc : Cells 19 w h vs) (hn : h.n ≤ 536870912) :
    Calls Try.prog 61 #[(.slice h.a h.n h.c)] w fun e w' => ∃ v', e = .returned v' ∧ w'.ownsRow w.heap.size 48 19 v' h.n vs ∧ Keeps none' w w' := by
  obtain ⟨a, n, c⟩ := h
  obtain ⟨hl, hcap, hnone, hone, hat⟩ := hc
  simp only at hl hcap hnone hn
  obtain ⟨i0, hi, hz0, hz1, hz2⟩ := info_parts info48
  have q := fun (w : World) (a : Option Addr) (n c n' c' : Nat) => Lib.run_eql_slice_nil (P := Try.prog) w 23 48 a n c n' c' Try.underlying23
  cases a with
  | none =>
    obtain ⟨rfl, rfl⟩ := hnone rfl
    obtain rfl : vs = [] := List.eq_nil_of_length_eq_zero (by omega)
    clear hat hone hl hcap hnone
    go_enter Try.func61, Try.ntmps61
    go_wp2_with fail
    go_ret
    exact ⟨_, rfl, ⟨by simp, .inl ⟨rfl, rfl⟩⟩, Keeps.refl _ _⟩
  | some x =>
    obtain ⟨h1, h2, h3⟩ := hat x rfl
    obtain ⟨b, off, sp⟩ := x
    simp only at h1 h2 h3
    subst h1
    have A := Lib.hid h3
    clear hat h3 hcap hnone
    go_enter Try.func61, Try.ntmps61
    go_wp2_with (at_builtin; refine wpList_append_own _ rfl _ _ 23 rfl w.heap.size 48 i0 _ 19 216 Try.underlying23 hi hz0 hz1 hz2 (by decide) (by decide) _ _ _ rfl (World.ownsRow_made w #[] 0 (Nat.le_refl _) (Nat.zero_le _) (by simp)) ⟨b, off, none⟩ n c vs rfl ?qc1 ?qc2 ?qc3 ?qc4 ?qc5 ?qc6 ?_)
    case qc1 => exact hl
    case qc2 =>
      intro j u hj
      rw [add_spot]
      exact ((Keeps.refl none' w).alloc _).cell (A.out j u hj)
    case qc3 => exact hone
    case qc4 => unfold maxLen; omega
    case qc5 => omega
    case qc6 => simp
    intro v' w1 hown hgrow hnil
    have K := Lib.hid (Keeps.grown ((Keeps.refl none' w).alloc (.cells #[] 48)) hgrow (fun q hq e => by simp [Value.ownBlock] at e; omega))
    go_wp2_with fail
    go_ret
    exact ⟨v', rfl, by simpa using hown, K.out⟩
end Go.Proofs.Ytfcpbpfemmdklaa
