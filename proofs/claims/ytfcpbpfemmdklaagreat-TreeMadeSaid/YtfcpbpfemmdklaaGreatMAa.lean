/- Texts of a layer, one behind the other. -/
import Derived.Test.YtfcpbpfemmdklaaGreatProg
import Derived.WalkKit
import Derived.WalkLawsBesides
import Derived.OneCell
import Derived.Outline
import Derived.Lib.Hide
import Derived.StillTailTactics
import Derived.BigQuiet
import Derived.BigRegion
import Derived.LoopTactic
import Derived.RegionTactic
import Derived.Deep.DeepMust
import Derived.Deep.QuietTactic
import Derived.Deep.LoopGhost
import Derived.Deep.OwnRows
import Derived.Deep.RegionHeld3
import Derived.Deep.RegionLaw
import Derived.Deep.Cut
import Derived.Maps.AppendAt
import Derived.Laws.AppendOwnNone
import Derived.OwnWalk
import Derived.Laws.MakeOwn
import Derived.Laws.CopyOwn
import Derived.Deep.MidRow
import Derived.RangeFuncNested
import Derived.RangeFuncBound
import Derived.RangeFuncCalls
import Derived.RangeFuncLeaves
import Derived.Shelf.Abstract
import Derived.Shelf.RegionOpen
import Derived.OwnWalkIn
import Derived.TacticsInMore
import Derived.LoopNIn
import Derived.LoopIn
/- What stays in memory; rows of cells; copies of rows. (printed by genTA.py) -/
namespace Go.Proofs.YtfcpbpfemmdklaaGreat.Tr
open Go.RowKit
set_option linter.unusedSimpArgs false
set_option linter.unusedVariables false

theorem wrap_i64 (n : Int) (h0 : -9223372036854775808 ≤ n) (h1 : n ≤ 9223372036854775807) : IntKind.i64.wrap n = n := by
  simp [IntKind.wrap, IntKind.bits, IntKind.signed]
  omega
theorem lt_of_block {w : World} {R : Nat} {o : Obj} (h : w.heap[R]? = some o) : R < w.heap.size := by
  obtain ⟨h, -⟩ := Array.getElem?_eq_some_iff.1 h
  exact h
/-- The blocks outside S are as they were. -/
structure Keeps (S : Nat → Prop) (w w' : World) : Prop where
  os : w'.os = w.os
  tape : w'.tape = w.tape
  output : w'.output = w.output
  size : w.heap.size ≤ w'.heap.size
  block : ∀ k, k < w.heap.size → ¬ S k → w'.heap[k]? = w.heap[k]?

theorem Keeps.refl (S : Nat → Prop) (w : World) : Keeps S w w := ⟨rfl, rfl, rfl, Nat.le_refl _, fun _ _ _ => rfl⟩
theorem Keeps.trans {S S1 : Nat → Prop} {a b c : World} (h : Keeps S a b) (k : Keeps S1 b c) (hS : ∀ i, i < a.heap.size → S1 i → S i) : Keeps S a c :=
  ⟨k.os.trans h.os, k.tape.trans h.tape, k.output.trans h.output, Nat.le_trans h.size k.size,
    fun i hi hn => (k.block i (Nat.lt_of_lt_of_le hi h.size) (fun s => hn (hS i hi s))).trans (h.block i hi hn)⟩
theorem Keeps.drewN {S : Nat → Prop} {a w : World} (h : Keeps S a w) (n : Nat) : Keeps S a (w.drewN n) := ⟨h.os, h.tape, h.output, h.size, h.block⟩
theorem Keeps.drew {S : Nat → Prop} {a w : World} (h : Keeps S a w) : Keeps S a w.drew := ⟨h.os, h.tape, h.output, h.size, h.block⟩
theorem Keeps.alloc {S : Nat → Prop} {a w : World} (h : Keeps S a w) (o : Obj) : Keeps S a (w.alloc o) :=
  ⟨h.os, h.tape, h.output, by have := h.size; simp; omega, fun i hi hn => (Below.heap_alloc _ _ _ (Nat.lt_of_lt_of_le hi h.size)).trans (h.block i hi hn)⟩
theorem Keeps.setCell {S : Nat → Prop} {a w : World} (h : Keeps S a w) {p : Addr} (hp : p.block < a.heap.size → S p.block) (u : Value) : Keeps S a (w.setCell p u) :=
  ⟨h.os, h.tape, h.output, by simp [World.setCell]; exact h.size, fun i hi hn => (Below.heap_setCell _ _ _ _ (fun e => hn (by subst e; exact hp hi))).trans (h.block i hi hn)⟩
theorem Keeps.below {S : Nat → Prop} {B : Nat} {w w' : World} (h : Keeps S w w') (hB : B ≤ w.heap.size) (hS : ∀ k, k < B → ¬ S k) : Below B w w' :=
  ⟨h.os, h.tape, h.output, h.size, fun k hk => h.block k (by omega) (hS k hk)⟩
/-- Nothing that was there has changed. -/
def none' : Nat → Prop := fun _ => False
theorem Keeps.later {w w' : World} (h : Keeps none' w w') : ∀ k, k < w.heap.size → w'.heap[k]? = w.heap[k]? := fun k hk => h.block k hk (fun h => h)
theorem Keeps.next {a b c : World} (h : Keeps none' a b) (k : Keeps none' b c) : Keeps none' a c := h.trans k (fun _ _ h => h)
theorem block_set {w : World} {R i : Nat} {c : Array Value} {t : TypeId} {f : Nat × Nat} (h : w.heap[R]? = some (.cells c t f)) (u : Value) :
    (w.setCell ⟨R, i, none⟩ u).heap[R]? = some (.cells (c.setIfInBounds i u) t f) := by
  simp only [World.setCell, Array.getElem?_modify, h]
  simp
theorem Keeps.cell {w w' : World} (h : Keeps none' w w') {p : Addr} {v : Value} (hc : w.cell? p = some v) : w'.cell? p = some v := by
  have hb := World.block_lt_of_cell? w _ hc
  exact (World.cell?_of_block (w := w) (h.later p.block hb)).trans hc
theorem add_spot (b off j : Nat) : ((⟨b, off, none⟩ : Addr).add j) = ⟨b, off + j, none⟩ := by
  unfold Addr.add
  split
  · rename_i h; subst h; rfl
  · rfl
theorem Keeps.grown {S : Nat → Prop} {w w1 w2 : World} (h : Keeps S w w1) {b : Option Nat} (g : w1.grownBy w2 b) (hb : ∀ q, q < w.heap.size → b = some q → S q) : Keeps S w w2 :=
  ⟨g.os.trans h.os, g.tape.trans h.tape, g.output.trans h.output, Nat.le_trans h.size g.size,
    fun i hi hn => (g.block i (Nat.lt_of_lt_of_le hi h.size) (fun e => hn (hb i hi e.symm))).trans (h.block i hi hn)⟩
/-- A slice's header. -/
structure Hd where
  a : Option Addr
  n : Nat
  c : Nat
def Hd.nil : Hd := ⟨none, 0, 0⟩
/-- What stands in a slice whose elements are of k cells each. -/
structure Cells (k : Nat) (w : World) (h : Hd) (vs : List Value) : Prop where
  len : vs.length = h.n * k
  cap : h.n ≤ h.c
  abs : h.a = none → h.n = 0 ∧ h.c = 0
  one : ∀ u ∈ vs, u.oneCell' = true
  at' : ∀ x, h.a = some x → x.spot = none ∧ x.block < w.heap.size ∧ ∀ j u, vs[j]? = some u → w.cell? ⟨x.block, x.off + j, none⟩ = some u
theorem Cells.keep {X : Nat → Prop} {k : Nat} {w w' : World} {h : Hd} {vs : List Value} (c : Cells k w h vs) (kk : Keeps X w w') (hX : ∀ x, h.a = some x → ¬ X x.block) : Cells k w' h vs := by
  refine ⟨c.len, c.cap, c.abs, c.one, fun x hx => ?_⟩
  obtain ⟨h1, h2, h3⟩ := c.at' x hx
  refine ⟨h1, Nat.lt_of_lt_of_le h2 kk.size, fun j u hj => ?_⟩
  have e : w'.cell? ⟨x.block, x.off + j, Option.none⟩ = w.cell? ⟨x.block, x.off + j, Option.none⟩ := World.cell?_of_block (kk.block x.block h2 (hX x hx))
  exact e.trans (h3 j u hj)
theorem Cells.later {k : Nat} {w w' : World} {h : Hd} {vs : List Value} (c : Cells k w h vs) (kk : Keeps none' w w') : Cells k w' h vs := c.keep kk (fun _ _ h => h)
theorem Cells.nil (k : Nat) (w : World) : Cells k w Hd.nil [] := ⟨by simp [Hd.nil], Nat.le_refl _, fun _ => ⟨rfl, rfl⟩, fun u hu => (by cases hu), fun x hx => (by cases hx)⟩
/-- A row of the call's own is a row. -/
theorem own_cells {w : World} {N e k n : Nat} {v : Value} {vs : List Value} (h : w.ownsRow N e k v n vs) (h1 : ∀ u ∈ vs, u.oneCell' = true) : ∃ hd : Hd, v = (.slice hd.a hd.n hd.c) ∧ hd.n = n ∧ Cells k w hd vs ∧ ∀ x, hd.a = some x → N ≤ x.block ∧ x.off = 0 := by
  obtain ⟨hl, h2⟩ := h
  rcases h2 with ⟨rfl, rfl⟩ | ⟨g, cap, cur, rfl, hB, hh, p1, p2, p3, p4⟩
  · exact ⟨Hd.nil, rfl, rfl, ⟨by simpa [Hd.nil] using hl, Nat.le_refl _, fun _ => ⟨rfl, rfl⟩, h1, fun x hx => (by cases hx)⟩, fun x hx => (by cases hx)⟩
  · refine ⟨⟨some ⟨g, 0, none⟩, n, cap⟩, rfl, rfl, ⟨hl, p1, fun h => (by cases h), h1, fun x hx => ?_⟩, fun x hx => ?_⟩
    · cases hx
      refine ⟨rfl, lt_of_block hh, fun j u hj => ?_⟩
      simp only [Nat.zero_add]
      rw [cell_of_row _ _ _ _ _ _ hh]
      have hjl : j < vs.length := (List.getElem?_eq_some_iff.1 hj).1
      rw [← p4, List.getElem?_take_of_lt (by omega)] at hj
      rw [← Array.getElem?_toList]
      exact hj
    · cases hx
      exact ⟨hB, rfl⟩
theorem info3 : (Tryz.prog.info? 3).map (fun i => (i.zero, i.size, i.bytes)) = some (some (.int .i64 0), 1, 8) := by kernel_rfl
set_option maxRecDepth 100000 in
set_option maxHeartbeats 800000 in
theorem clone_ints (h : Hd) (vs : List Value) (w : World) (hc : Cells 1 w h vs) (hn : h.n ≤ 536870912) :
    Calls Tryz.prog 63 #[(.slice h.a h.n h.c)] w fun e w' => ∃ v', e = .returned v' ∧ w'.ownsRow w.heap.size 3 1 v' h.n vs ∧ Keeps none' w w' := by
  obtain ⟨a, n, c⟩ := h
  obtain ⟨hl, hcap, hnone, hone, hat⟩ := hc
  simp only at hl hcap hnone hn
  obtain ⟨i0, hi, hz0, hz1, hz2⟩ := info_parts info3
  have q := fun (w : World) (a : Option Addr) (n c n' c' : Nat) => Lib.run_eql_slice_nil (P := Tryz.prog) w 33 3 a n c n' c' Tryz.underlying33
  cases a with
  | none =>
    obtain ⟨rfl, rfl⟩ := hnone rfl
    obtain rfl : vs = [] := List.eq_nil_of_length_eq_zero (by omega)
    clear hat hone hl hcap hnone
    go_enter Tryz.func63, Tryz.ntmps63
    go_wp2_with fail
    go_ret
    exact ⟨_, rfl, ⟨by simp, .inl ⟨rfl, rfl⟩⟩, Keeps.refl _ _⟩
  | some x =>
    obtain ⟨h1, h2, h3⟩ := hat x rfl
    obtain ⟨b, off, sp⟩ := x
    simp only at h1 h2 h3
    subst h1
    have A := Lib.hid h3
    clear hat h3 hcap hnone
    go_enter Tryz.func63, Tryz.ntmps63
    go_wp2_with (at_builtin; refine wpList_append_own _ rfl _ _ 33 rfl w.heap.size 3 i0 _ 1 8 Tryz.underlying33 hi hz0 hz1 hz2 (by decide) (by decide) _ _ _ rfl (World.ownsRow_made w #[] 0 (Nat.le_refl _) (Nat.zero_le _) (by simp)) ⟨b, off, none⟩ n c vs rfl ?qc1 ?qc2 ?qc3 ?qc4 ?qc5 ?qc6 ?_)
    case qc1 => exact hl
    case qc2 =>
      intro j u hj
      rw [add_spot]
      exact ((Keeps.refl none' w).alloc _).cell (A.out j u hj)
    case qc3 => exact hone
    case qc4 => unfold maxLen; omega
    case qc5 => omega
    case qc6 => simp
    intro v' w1 hown hgrow hnil
    have K := Lib.hid (Keeps.grown ((Keeps.refl none' w).alloc (.cells #[] 3)) hgrow (fun q hq e => by simp [Value.ownBlock] at e; omega))
    go_wp2_with fail
    go_ret
    exact ⟨v', rfl, by simpa using hown, K.out⟩
theorem info5 : (Tryz.prog.info? 5).map (fun i => (i.zero, i.size, i.bytes)) = some (some (.int .u8 0), 1, 1) := by kernel_rfl
set_option maxRecDepth 100000 in
set_option maxHeartbeats 800000 in
theorem clone_bytes (h : Hd) (vs : List Value) (w : World) (hc : Cells 1 w h vs) (hn : h.n ≤ 536870912) :
    Calls Tryz.prog 64 #[(.slice h.a h.n h.c)] w fun e w' => ∃ v', e = .returned v' ∧ w'.ownsRow w.heap.size 5 1 v' h.n vs ∧ Keeps none' w w' := by
  obtain ⟨a, n, c⟩ := h
  obtain ⟨hl, hcap, hnone, hone, hat⟩ := hc
  simp only at hl hcap hnone hn
  obtain ⟨i0, hi, hz0, hz1, hz2⟩ := info_parts info5
  have q := fun (w : World) (a : Option Addr) (n c n' c' : Nat) => Lib.run_eql_slice_nil (P := Tryz.prog) w 49 5 a n c n' c' Tryz.underlying49
  cases a with
  | none =>
    obtain ⟨rfl, rfl⟩ := hnone rfl
    obtain rfl : vs = [] := List.eq_nil_of_length_eq_zero (by omega)
    clear hat hone hl hcap hnone
    go_enter Tryz.func64, Tryz.ntmps64
    go_wp2_with fail
    go_ret
    exact ⟨_, rfl, ⟨by simp, .inl ⟨rfl, rfl⟩⟩, Keeps.refl _ _⟩
  | some x =>
    obtain ⟨h1, h2, h3⟩ := hat x rfl
    obtain ⟨b, off, sp⟩ := x
    simp only at h1 h2 h3
    subst h1
    have A := Lib.hid h3
    clear hat h3 hcap hnone
    go_enter Tryz.func64, Tryz.ntmps64
    go_wp2_with (at_builtin; refine wpList_append_own _ rfl _ _ 49 rfl w.heap.size 5 i0 _ 1 1 Tryz.underlying49 hi hz0 hz1 hz2 (by decide) (by decide) _ _ _ rfl (World.ownsRow_made w #[] 0 (Nat.le_refl _) (Nat.zero_le _) (by simp)) ⟨b, off, none⟩ n c vs rfl ?qc1 ?qc2 ?qc3 ?qc4 ?qc5 ?qc6 ?_)
    case qc1 => exact hl
    case qc2 =>
      intro j u hj
      rw [add_spot]
      exact ((Keeps.refl none' w).alloc _).cell (A.out j u hj)
    case qc3 => exact hone
    case qc4 => unfold maxLen; omega
    case qc5 => omega
    case qc6 => simp
    intro v' w1 hown hgrow hnil
    have K := Lib.hid (Keeps.grown ((Keeps.refl none' w).alloc (.cells #[] 5)) hgrow (fun q hq e => by simp [Value.ownBlock] at e; omega))
    go_wp2_with fail
    go_ret
    exact ⟨v', rfl, by simpa using hown, K.out⟩
theorem info48 : (Tryz.prog.info? 51).map (fun i => (i.zero, i.size, i.bytes)) = some (some (.agg #[.int .i64 0, .int .i64 0, .bool false, .int .i64 0, .int .i64 0, .int .i64 0, .int .i64 0, .slice none 0 0, .slice none 0 0, .int .i64 0, .int .i64 0, .int .i64 0, .int .i64 0, .int .i64 0, .int .i64 0, .bool false, .int .i64 0, .slice none 0 0, .slice none 0 0]), 19, 216) := by kernel_rfl
set_option maxRecDepth 100000 in
set_option maxHeartbeats 800000 in
theorem clone_layers (h : Hd) (vs : List Value) (w : World) (hc : Cells 19 w h vs) (hn : h.n ≤ 536870912) :
    Calls Tryz.prog 88 #[(.slice h.a h.n h.c)] w fun e w' => ∃ v', e = .returned v' ∧ w'.ownsRow w.heap.size 51 19 v' h.n vs ∧ Keeps none' w w' := by
  obtain ⟨a, n, c⟩ := h
  obtain ⟨hl, hcap, hnone, hone, hat⟩ := hc
  simp only at hl hcap hnone hn
  obtain ⟨i0, hi, hz0, hz1, hz2⟩ := info_parts info48
  have q := fun (w : World) (a : Option Addr) (n c n' c' : Nat) => Lib.run_eql_slice_nil (P := Tryz.prog) w 24 51 a n c n' c' Tryz.underlying24
  cases a with
  | none =>
    obtain ⟨rfl, rfl⟩ := hnone rfl
    obtain rfl : vs = [] := List.eq_nil_of_length_eq_zero (by omega)
    clear hat hone hl hcap hnone
    go_enter Tryz.func88, Tryz.ntmps88
    go_wp2_with fail
    go_ret
    exact ⟨_, rfl, ⟨by simp, .inl ⟨rfl, rfl⟩⟩, Keeps.refl _ _⟩
  | some x =>
    obtain ⟨h1, h2, h3⟩ := hat x rfl
    obtain ⟨b, off, sp⟩ := x
    simp only at h1 h2 h3
    subst h1
    have A := Lib.hid h3
    clear hat h3 hcap hnone
    go_enter Tryz.func88, Tryz.ntmps88
    go_wp2_with (at_builtin; refine wpList_append_own _ rfl _ _ 24 rfl w.heap.size 51 i0 _ 19 216 Tryz.underlying24 hi hz0 hz1 hz2 (by decide) (by decide) _ _ _ rfl (World.ownsRow_made w #[] 0 (Nat.le_refl _) (Nat.zero_le _) (by simp)) ⟨b, off, none⟩ n c vs rfl ?qc1 ?qc2 ?qc3 ?qc4 ?qc5 ?qc6 ?_)
    case qc1 => exact hl
    case qc2 =>
      intro j u hj
      rw [add_spot]
      exact ((Keeps.refl none' w).alloc _).cell (A.out j u hj)
    case qc3 => exact hone
    case qc4 => unfold maxLen; omega
    case qc5 => omega
    case qc6 => simp
    intro v' w1 hown hgrow hnil
    have K := Lib.hid (Keeps.grown ((Keeps.refl none' w).alloc (.cells #[] 51)) hgrow (fun q hq e => by simp [Value.ownBlock] at e; omega))
    go_wp2_with fail
    go_ret
    exact ⟨v', rfl, by simpa using hown, K.out⟩
end Go.Proofs.YtfcpbpfemmdklaaGreat.Tr

/- Layers as they lie in memory. (printed by genTB.py) -/
namespace Go.Proofs.YtfcpbpfemmdklaaGreat.Tr
open Go.RowKit
set_option linter.unusedSimpArgs false
set_option linter.unusedVariables false

/-- What a layer has, but for its kids. -/
structure Dat where
  id : Int
  kind : Int
  hid : Bool
  op : Int
  mode : Int
  w : Int
  h : Int
  p : List Int
  mask : List Int
  ma : Int
  mb : Int
  mc : Int
  md : Int
  me : Int
  mf : Int
  smooth : Bool
  table : Int
  pars : List Int
/-- A layer in plain words. -/
inductive Lay where
  | mk (d : Dat) (kids : List Lay)
/-- A layer with the headers of its lists. -/
inductive Loc where
  | mk (d : Dat) (p m q k : Hd) (kids : List Loc)
def Loc.dat : Loc → Dat
  | .mk d _ _ _ _ _ => d
def Loc.kids : Loc → List Loc
  | .mk _ _ _ _ _ ks => ks
def Loc.kh : Loc → Hd
  | .mk _ _ _ _ k _ => k
def cells19 (d : Dat) (p m q k : Hd) : List Value := [.int .i64 d.id, .int .i64 d.kind, .bool d.hid, .int .i64 d.op, .int .i64 d.mode, .int .i64 d.w, .int .i64 d.h, (.slice p.a p.n p.c), (.slice m.a m.n m.c), .int .i64 d.ma, .int .i64 d.mb, .int .i64 d.mc, .int .i64 d.md, .int .i64 d.me, .int .i64 d.mf, .bool d.smooth, .int .i64 d.table, (.slice q.a q.n q.c), (.slice k.a k.n k.c)]
def Loc.cells : Loc → List Value
  | .mk d p m q k _ => cells19 d p m q k
theorem Loc.cells_length (l : Loc) : l.cells.length = 19 := by cases l; rfl
theorem Loc.cells_one (l : Loc) : ∀ u ∈ l.cells, u.oneCell' = true := by
  cases l
  intro u hu
  simp [Loc.cells, cells19] at hu
  rcases hu with h | h | h | h | h | h | h | h | h | h | h | h | h | h | h | h | h | h | h <;> (subst h; rfl)
/-- The cells of layers, one behind the other. -/
def flat : List Loc → List Value
  | [] => []
  | l :: ls => l.cells ++ flat ls
theorem flat_length : ∀ ls : List Loc, (flat ls).length = ls.length * 19
  | [] => rfl
  | l :: ls => by rw [flat, List.length_append, Loc.cells_length, flat_length ls, List.length_cons]; omega
theorem flat_one : ∀ (ls : List Loc), ∀ u ∈ flat ls, u.oneCell' = true
  | [], u, h => by cases h
  | l :: ls, u, h => by
    rw [flat] at h
    rcases List.mem_append.1 h with h | h
    · exact l.cells_one u h
    · exact flat_one ls u h
theorem flat_append : ∀ (xs ys : List Loc), flat (xs ++ ys) = flat xs ++ flat ys
  | [], ys => rfl
  | x :: xs, ys => by rw [List.cons_append, flat, flat, flat_append xs ys, List.append_assoc]
theorem flat_at : ∀ (ls : List Loc) (i : Nat) (l : Loc), ls[i]? = some l → ∀ (j : Nat) (u : Value), l.cells[j]? = some u → (flat ls)[i * 19 + j]? = some u
  | x :: xs, 0, l, h, j, u, hj => by
    cases h
    rw [flat, Nat.zero_mul, Nat.zero_add, List.getElem?_append_left (by exact (List.getElem?_eq_some_iff.1 hj).1)]
    exact hj
  | x :: xs, i + 1, l, h, j, u, hj => by
    rw [flat, List.getElem?_append_right (by rw [Loc.cells_length]; omega), Loc.cells_length, show (i + 1) * 19 + j - 19 = i * 19 + j by omega]
    exact flat_at xs i l h j u hj
def ints (l : List Int) : List Value := l.map (Value.int .i64)
def bytes (l : List Int) : List Value := l.map (Value.int .u8)
/-- A condition on all lists of all layers: what they are of, how many cells each has, header, cells. -/
def All (R : Nat → Nat → Hd → List Value → Prop) : List Loc → Prop
  | [] => True
  | .mk d p m q k kids :: ls => R 3 1 p (ints d.p) ∧ R 5 1 m (bytes d.mask) ∧ R 3 1 q (ints d.pars) ∧ R 51 19 k (flat kids) ∧ All R kids ∧ All R ls
/-- All headers. -/
def hds : List Loc → List Hd
  | [] => []
  | .mk d p m q k kids :: ls => p :: m :: q :: k :: (hds kids ++ hds ls)
theorem All.imp {R S : Nat → Nat → Hd → List Value → Prop} : ∀ {ls : List Loc}, All R ls → (∀ e k h vs, h ∈ hds ls → R e k h vs → S e k h vs) → All S ls
  | [], _, _ => by rw [All]; trivial
  | .mk d p m q k kids :: ls, h, f => by
    rw [All] at h ⊢
    obtain ⟨h1, h2, h3, h4, h5, h6⟩ := h
    refine ⟨f _ _ _ _ (by simp [hds]) h1, f _ _ _ _ (by simp [hds]) h2, f _ _ _ _ (by simp [hds]) h3, f _ _ _ _ (by simp [hds]) h4, All.imp h5 fun e k h vs hm => f e k h vs (by simp [hds, hm]), All.imp h6 fun e k h vs hm => f e k h vs (by simp [hds, hm])⟩
theorem All.append {R : Nat → Nat → Hd → List Value → Prop} : ∀ {xs ys : List Loc}, All R (xs ++ ys) ↔ All R xs ∧ All R ys
  | [], ys => by rw [All]; simp
  | .mk d p m q k kids :: xs, ys => by rw [List.cons_append, All, All, All.append (xs := xs)]; simp only [and_assoc]
theorem All.one {R : Nat → Nat → Hd → List Value → Prop} {ls : List Loc} (h : All R ls) {i : Nat} {l : Loc} (hl : ls[i]? = some l) : All R [l] := by
  have e : ls = ls.take i ++ l :: ls.drop (i + 1) := by
    have hi := (List.getElem?_eq_some_iff.1 hl).1
    have hg : ls[i] = l := (List.getElem?_eq_some_iff.1 hl).2
    rw [← hg, ← List.drop_eq_getElem_cons hi, List.take_append_drop]
  rw [e, All.append] at h
  have h2 : All R ([l] ++ ls.drop (i + 1)) := h.2
  exact (All.append.1 h2).1
theorem hds_append : ∀ (xs ys : List Loc), hds (xs ++ ys) = hds xs ++ hds ys
  | [], ys => by rw [hds]; rfl
  | .mk d p m q k kids :: xs, ys => by rw [List.cons_append, hds, hds, hds_append xs ys]; simp
/-- The block of a header. -/
def Hd.blk (h : Hd) : List Nat := match h.a with
  | none => []
  | some x => [x.block]
def blks (ls : List Loc) : List Nat := (hds ls).flatMap Hd.blk
theorem blks_append (xs ys : List Loc) : blks (xs ++ ys) = blks xs ++ blks ys := by unfold blks; rw [hds_append, List.flatMap_append]
theorem mem_blks {ls : List Loc} {h : Hd} {x : Addr} (hm : h ∈ hds ls) (hx : h.a = some x) : x.block ∈ blks ls := by
  unfold blks
  rw [List.mem_flatMap]
  exact ⟨h, hm, by unfold Hd.blk; rw [hx]; simp⟩
/-- In plain words. -/
def er : List Loc → List Lay
  | [] => []
  | .mk d _ _ _ _ kids :: ls => .mk d (er kids) :: er ls
theorem er_append : ∀ (xs ys : List Loc), er (xs ++ ys) = er xs ++ er ys
  | [], ys => by rw [er]; rfl
  | .mk d p m q k kids :: xs, ys => by rw [List.cons_append, er, er, er_append xs ys]; rfl
theorem er_length : ∀ (xs : List Loc), (er xs).length = xs.length
  | [] => by rw [er]; rfl
  | .mk d p m q k kids :: xs => by rw [er, List.length_cons, er_length xs, List.length_cons]
/-- Lists that can be read. -/
def ReadR (w : World) (e k : Nat) (h : Hd) (vs : List Value) : Prop := Cells k w h vs ∧ h.n ≤ 536870912
def Rep (w : World) (ls : List Loc) : Prop := All (ReadR w) ls
/-- Lists in blocks of their own, from block B on. -/
def OwnR (B : Nat) (w : World) (e k : Nat) (h : Hd) (vs : List Value) : Prop := w.ownsRow B e k (.slice h.a h.n h.c) h.n vs ∧ (∀ u ∈ vs, u.oneCell' = true) ∧ h.n ≤ 536870912
def Own (B : Nat) (w : World) (ls : List Loc) : Prop := All (OwnR B w) ls
theorem Hd.inj {h h' : Hd} (e : Value.slice h.a h.n h.c = Value.slice h'.a h'.n h'.c) : h = h' := by
  cases h; cases h'
  simp at e
  simp [e]
theorem OwnR.read {B : Nat} {w : World} {e k : Nat} {h : Hd} {vs : List Value} (o : OwnR B w e k h vs) : ReadR w e k h vs ∧ ∀ x, h.a = some x → B ≤ x.block ∧ x.off = 0 := by
  obtain ⟨h1, h2, h3⟩ := o
  obtain ⟨hd, e1, e2, e3, e4⟩ := own_cells h1 h2
  obtain rfl := Hd.inj e1
  exact ⟨⟨e3, h3⟩, e4⟩
theorem Own.rep {B : Nat} {w : World} {ls : List Loc} (h : Own B w ls) : Rep w ls := All.imp h fun _ _ _ _ _ o => o.read.1
theorem ReadR.keep {X : Nat → Prop} {w w' : World} {e k : Nat} {h : Hd} {vs : List Value} (o : ReadR w e k h vs) (kk : Keeps X w w') (hX : ∀ x, h.a = some x → ¬ X x.block) : ReadR w' e k h vs := ⟨o.1.keep kk hX, o.2⟩
theorem Rep.later {w w' : World} {ls : List Loc} (h : Rep w ls) (k : Keeps none' w w') : Rep w' ls := All.imp h fun _ _ _ _ _ o => o.keep k (fun _ _ h => h)
theorem ownsRow_kept {w w' : World} {B e k n : Nat} {v : Value} {xs : List Value} (h : w.ownsRow B e k v n xs) (hk : ∀ b, v.ownBlock = some b → w'.heap[b]? = w.heap[b]?) : w'.ownsRow B e k v n xs := by
  refine ⟨h.1, ?_⟩
  rcases h.2 with h2 | ⟨g, cap, cur, rfl, hb, hg, h3⟩
  · exact .inl h2
  · exact .inr ⟨g, cap, cur, rfl, hb, (hk g rfl).trans hg, h3⟩
theorem OwnR.keep {X : Nat → Prop} {B : Nat} {w w' : World} {e k : Nat} {h : Hd} {vs : List Value} (o : OwnR B w e k h vs) (kk : Keeps X w w') (hX : ∀ x, h.a = some x → ¬ X x.block) : OwnR B w' e k h vs := by
  refine ⟨ownsRow_kept o.1 fun b hb => ?_, o.2⟩
  obtain ⟨a, n, c⟩ := h
  cases a with
  | none => cases hb
  | some x =>
    cases hb
    exact kk.block _ (o.read.1.1.at' x rfl).2.1 (hX x rfl)
theorem OwnR.low {B B' : Nat} {w : World} {e k : Nat} {h : Hd} {vs : List Value} (o : OwnR B w e k h vs) (hB : B' ≤ B) : OwnR B' w e k h vs := by
  obtain ⟨⟨h1, h2⟩, h3⟩ := o
  refine ⟨⟨h1, ?_⟩, h3⟩
  rcases h2 with h2 | ⟨g, cap, cur, e1, hb, hg⟩
  · exact .inl h2
  · exact .inr ⟨g, cap, cur, e1, Nat.le_trans hB hb, hg⟩
theorem Own.keep {X : Nat → Prop} {B : Nat} {w w' : World} {ls : List Loc} (h : Own B w ls) (kk : Keeps X w w') (hX : ∀ b ∈ blks ls, ¬ X b) : Own B w' ls :=
  All.imp h fun _ _ _ _ hm o => o.keep kk (fun x hx => hX _ (mem_blks hm hx))
theorem Own.later {B : Nat} {w w' : World} {ls : List Loc} (h : Own B w ls) (k : Keeps none' w w') : Own B w' ls := h.keep k (fun _ _ h => h)
theorem Own.low {B B' : Nat} {w : World} {ls : List Loc} (h : Own B w ls) (hB : B' ≤ B) : Own B' w ls := All.imp h fun _ _ _ _ _ o => o.low hB
theorem All.mem {R : Nat → Nat → Hd → List Value → Prop} : ∀ {ls : List Loc}, All R ls → ∀ h ∈ hds ls, ∃ e k vs, R e k h vs
  | [], _, h, hm => by rw [hds] at hm; cases hm
  | .mk d p m q k kids :: ls, ha, h, hm => by
    rw [All] at ha
    rw [hds] at hm
    obtain ⟨h1, h2, h3, h4, h5, h6⟩ := ha
    rcases List.mem_cons.1 hm with rfl | hm
    · exact ⟨_, _, _, h1⟩
    rcases List.mem_cons.1 hm with rfl | hm
    · exact ⟨_, _, _, h2⟩
    rcases List.mem_cons.1 hm with rfl | hm
    · exact ⟨_, _, _, h3⟩
    rcases List.mem_cons.1 hm with rfl | hm
    · exact ⟨_, _, _, h4⟩
    rcases List.mem_append.1 hm with hm | hm
    · exact All.mem h5 h hm
    · exact All.mem h6 h hm
/-- Where the blocks lie. -/
theorem Own.range {B : Nat} {w : World} {ls : List Loc} (h : Own B w ls) : ∀ b ∈ blks ls, B ≤ b ∧ b < w.heap.size := by
  intro b hb
  unfold blks at hb
  obtain ⟨hd, hm, hb⟩ := List.mem_flatMap.1 hb
  obtain ⟨e, k, vs, o⟩ := All.mem h hd hm
  unfold Hd.blk at hb
  cases hx : hd.a with
  | none => rw [hx] at hb; cases hb
  | some x =>
    rw [hx] at hb
    obtain rfl := List.mem_singleton.1 hb
    exact ⟨(o.read.2 x hx).1, (o.read.1.1.at' x hx).2.1⟩
/-- A layer that lies in a block alone. -/
def Lb (w : World) (A : Nat) (d : Dat) (p m q k : Hd) : Prop := w.heap[A]? = some (.cells (cells19 d p m q k).toArray 51 (0, 0))
theorem Lb.lt {w : World} {A : Nat} {d : Dat} {p m q k : Hd} (h : Lb w A d p m q k) : A < w.heap.size := lt_of_block h
theorem Lb.c0 {w : World} {A : Nat} {d : Dat} {p m q k : Hd} (h : Lb w A d p m q k) : w.cell? ⟨A, 0, none⟩ = some (.int .i64 d.id) := by simp [World.cell?, show w.heap[A]? = _ from h, cells19]
theorem Lb.c1 {w : World} {A : Nat} {d : Dat} {p m q k : Hd} (h : Lb w A d p m q k) : w.cell? ⟨A, 1, none⟩ = some (.int .i64 d.kind) := by simp [World.cell?, show w.heap[A]? = _ from h, cells19]
theorem Lb.c2 {w : World} {A : Nat} {d : Dat} {p m q k : Hd} (h : Lb w A d p m q k) : w.cell? ⟨A, 2, none⟩ = some (.bool d.hid) := by simp [World.cell?, show w.heap[A]? = _ from h, cells19]
theorem Lb.c3 {w : World} {A : Nat} {d : Dat} {p m q k : Hd} (h : Lb w A d p m q k) : w.cell? ⟨A, 3, none⟩ = some (.int .i64 d.op) := by simp [World.cell?, show w.heap[A]? = _ from h, cells19]
theorem Lb.c4 {w : World} {A : Nat} {d : Dat} {p m q k : Hd} (h : Lb w A d p m q k) : w.cell? ⟨A, 4, none⟩ = some (.int .i64 d.mode) := by simp [World.cell?, show w.heap[A]? = _ from h, cells19]
theorem Lb.c5 {w : World} {A : Nat} {d : Dat} {p m q k : Hd} (h : Lb w A d p m q k) : w.cell? ⟨A, 5, none⟩ = some (.int .i64 d.w) := by simp [World.cell?, show w.heap[A]? = _ from h, cells19]
theorem Lb.c6 {w : World} {A : Nat} {d : Dat} {p m q k : Hd} (h : Lb w A d p m q k) : w.cell? ⟨A, 6, none⟩ = some (.int .i64 d.h) := by simp [World.cell?, show w.heap[A]? = _ from h, cells19]
theorem Lb.c7 {w : World} {A : Nat} {d : Dat} {p m q k : Hd} (h : Lb w A d p m q k) : w.cell? ⟨A, 7, none⟩ = some ((.slice p.a p.n p.c)) := by simp [World.cell?, show w.heap[A]? = _ from h, cells19]
theorem Lb.c8 {w : World} {A : Nat} {d : Dat} {p m q k : Hd} (h : Lb w A d p m q k) : w.cell? ⟨A, 8, none⟩ = some ((.slice m.a m.n m.c)) := by simp [World.cell?, show w.heap[A]? = _ from h, cells19]
theorem Lb.c9 {w : World} {A : Nat} {d : Dat} {p m q k : Hd} (h : Lb w A d p m q k) : w.cell? ⟨A, 9, none⟩ = some (.int .i64 d.ma) := by simp [World.cell?, show w.heap[A]? = _ from h, cells19]
theorem Lb.c10 {w : World} {A : Nat} {d : Dat} {p m q k : Hd} (h : Lb w A d p m q k) : w.cell? ⟨A, 10, none⟩ = some (.int .i64 d.mb) := by simp [World.cell?, show w.heap[A]? = _ from h, cells19]
theorem Lb.c11 {w : World} {A : Nat} {d : Dat} {p m q k : Hd} (h : Lb w A d p m q k) : w.cell? ⟨A, 11, none⟩ = some (.int .i64 d.mc) := by simp [World.cell?, show w.heap[A]? = _ from h, cells19]
theorem Lb.c12 {w : World} {A : Nat} {d : Dat} {p m q k : Hd} (h : Lb w A d p m q k) : w.cell? ⟨A, 12, none⟩ = some (.int .i64 d.md) := by simp [World.cell?, show w.heap[A]? = _ from h, cells19]
theorem Lb.c13 {w : World} {A : Nat} {d : Dat} {p m q k : Hd} (h : Lb w A d p m q k) : w.cell? ⟨A, 13, none⟩ = some (.int .i64 d.me) := by simp [World.cell?, show w.heap[A]? = _ from h, cells19]
theorem Lb.c14 {w : World} {A : Nat} {d : Dat} {p m q k : Hd} (h : Lb w A d p m q k) : w.cell? ⟨A, 14, none⟩ = some (.int .i64 d.mf) := by simp [World.cell?, show w.heap[A]? = _ from h, cells19]
theorem Lb.c15 {w : World} {A : Nat} {d : Dat} {p m q k : Hd} (h : Lb w A d p m q k) : w.cell? ⟨A, 15, none⟩ = some (.bool d.smooth) := by simp [World.cell?, show w.heap[A]? = _ from h, cells19]
theorem Lb.c16 {w : World} {A : Nat} {d : Dat} {p m q k : Hd} (h : Lb w A d p m q k) : w.cell? ⟨A, 16, none⟩ = some (.int .i64 d.table) := by simp [World.cell?, show w.heap[A]? = _ from h, cells19]
theorem Lb.c17 {w : World} {A : Nat} {d : Dat} {p m q k : Hd} (h : Lb w A d p m q k) : w.cell? ⟨A, 17, none⟩ = some ((.slice q.a q.n q.c)) := by simp [World.cell?, show w.heap[A]? = _ from h, cells19]
theorem Lb.c18 {w : World} {A : Nat} {d : Dat} {p m q k : Hd} (h : Lb w A d p m q k) : w.cell? ⟨A, 18, none⟩ = some ((.slice k.a k.n k.c)) := by simp [World.cell?, show w.heap[A]? = _ from h, cells19]
theorem Lb.fr {w : World} {A i : Nat} {d : Dat} {p m q k : Hd} (h : Lb w A d p m q k) : w.frozen? ⟨A, i, none⟩ = false := by simp [World.frozen?, show w.heap[A]? = _ from h]
theorem Lb.new (w : World) (d : Dat) (p m q k : Hd) : Lb (w.alloc (.cells (cells19 d p m q k).toArray 51)) w.heap.size d p m q k := heap_alloc_new _ _
theorem Lb.later {w w' : World} {A : Nat} {d : Dat} {p m q k : Hd} (h : Lb w A d p m q k) (kk : Keeps none' w w') : Lb w' A d p m q k := (kk.later A h.lt).trans h
theorem Lb.alloc {w : World} {A : Nat} {d : Dat} {p m q k : Hd} (h : Lb w A d p m q k) (o : Obj) : Lb (w.alloc o) A d p m q k := (Below.heap_alloc _ _ _ h.lt).trans h
theorem Lb.other {w : World} {A R i : Nat} {d : Dat} {p m q k : Hd} (h : Lb w A d p m q k) (hn : A ≠ R) (v : Value) : Lb (w.setCell ⟨R, i, none⟩ v) A d p m q k := (Below.heap_setCell _ _ _ _ hn).trans h
theorem Lb.s7 {w : World} {A : Nat} {d : Dat} {p m q k : Hd} (h : Lb w A d p m q k) (x : Hd) : Lb (w.setCell ⟨A, 7, none⟩ (.slice x.a x.n x.c)) A d x m q k := by
  unfold Lb
  rw [block_set h]
  rfl
theorem Lb.s8 {w : World} {A : Nat} {d : Dat} {p m q k : Hd} (h : Lb w A d p m q k) (x : Hd) : Lb (w.setCell ⟨A, 8, none⟩ (.slice x.a x.n x.c)) A d p x q k := by
  unfold Lb
  rw [block_set h]
  rfl
theorem Lb.s17 {w : World} {A : Nat} {d : Dat} {p m q k : Hd} (h : Lb w A d p m q k) (x : Hd) : Lb (w.setCell ⟨A, 17, none⟩ (.slice x.a x.n x.c)) A d p m x k := by
  unfold Lb
  rw [block_set h]
  rfl
theorem Lb.s18 {w : World} {A : Nat} {d : Dat} {p m q k : Hd} (h : Lb w A d p m q k) (x : Hd) : Lb (w.setCell ⟨A, 18, none⟩ (.slice x.a x.n x.c)) A d p m q x := by
  unfold Lb
  rw [block_set h]
  rfl
end Go.Proofs.YtfcpbpfemmdklaaGreat.Tr

/- Copies of layers: what a copy is; a layer's own copy under that of its kids. (printed by genTC.py) -/
namespace Go.Proofs.YtfcpbpfemmdklaaGreat.Tr
open Go.RowKit
set_option linter.unusedSimpArgs false
set_option linter.unusedVariables false

theorem nodup_app {xs ys : List Nat} {n : Nat} (h1 : xs.Nodup) (h2 : ys.Nodup) (h3 : ∀ x ∈ xs, x < n) (h4 : ∀ y ∈ ys, n ≤ y) : (xs ++ ys).Nodup := by
  rw [List.nodup_append]
  refine ⟨h1, h2, fun a ha b hb e => ?_⟩
  have := h3 a ha
  have := h4 b hb
  omega
theorem Hd.blk_nodup (h : Hd) : h.blk.Nodup := by
  unfold Hd.blk
  cases h.a <;> simp
theorem Hd.blk_mem {h : Hd} {b : Nat} (hb : b ∈ h.blk) : ∃ x, h.a = some x ∧ x.block = b := by
  unfold Hd.blk at hb
  cases hx : h.a with
  | none => rw [hx] at hb; cases hb
  | some x => rw [hx] at hb; exact ⟨x, rfl, (List.mem_singleton.1 hb).symm⟩
theorem OwnR.range {B : Nat} {w : World} {e k : Nat} {h : Hd} {vs : List Value} (o : OwnR B w e k h vs) : ∀ b ∈ h.blk, B ≤ b ∧ b < w.heap.size := by
  intro b hb
  obtain ⟨x, hx, rfl⟩ := Hd.blk_mem hb
  exact ⟨(o.read.2 x hx).1, (o.read.1.1.at' x hx).2.1⟩
theorem OwnR.later {B : Nat} {w w' : World} {e k : Nat} {h : Hd} {vs : List Value} (o : OwnR B w e k h vs) (kk : Keeps none' w w') : OwnR B w' e k h vs := o.keep kk (fun _ _ h => h)
theorem keeps_at (w : World) (A i : Nat) (u : Value) : Keeps (fun q => q = A) w (w.setCell ⟨A, i, none⟩ u) := (Keeps.refl (fun q => q = A) w).setCell (p := ⟨A, i, none⟩) (fun _ => rfl) u
theorem OwnR.set {B A i : Nat} {w : World} {e k : Nat} {h : Hd} {vs : List Value} (o : OwnR B w e k h vs) (hA : A < B) (u : Value) : OwnR B (w.setCell ⟨A, i, none⟩ u) e k h vs :=
  o.keep (keeps_at w A i u) (fun x hx e => by have := (o.read.2 x hx).1; omega)
theorem Own.set {B A i : Nat} {w : World} {ls : List Loc} (o : Own B w ls) (hA : A < B) (u : Value) : Own B (w.setCell ⟨A, i, none⟩ u) ls :=
  o.keep (keeps_at w A i u) (fun b hb e => by have := (o.range b hb).1; omega)
theorem size48 : (Tryz.prog.info? 51).map (·.size) = some 19 := by kernel_rfl
theorem keeps_row (w : World) (R : Nat) (cs : Array Value) : Keeps (fun q => q = R) w (w.setRow R cs) := ⟨rfl, rfl, rfl, by simp, fun k _ hn => setRow_other w R k cs hn⟩
theorem Keeps.setRow {w w1 : World} (h : Keeps none' w w1) {R : Nat} (hR : w.heap.size ≤ R) (cs : Array Value) : Keeps none' w (w1.setRow R cs) := h.trans (keeps_row w1 R cs) (fun i hi e => by have e' : i = R := e; omega)
/-- A copy of layers. -/
structure CopyOf (w : World) (ls : List Loc) (h' : Hd) (ls' : List Loc) (w' : World) : Prop where
  row : OwnR w.heap.size w' 51 19 h' (flat ls')
  own : Own w.heap.size w' ls'
  same : er ls' = er ls
  keeps : Keeps none' w w'
  nodup : (h'.blk ++ blks ls').Nodup
def Copies (ls : List Loc) : Prop := ∀ h w, ReadR w 51 19 h (flat ls) → Rep w ls → Calls Tryz.prog 55 #[(.slice h.a h.n h.c)] w fun e w' => ∃ h' ls', e = .returned (.slice h'.a h'.n h'.c) ∧ CopyOf w ls h' ls' w'
/-- A copy of one layer. -/
structure CopyOne (w : World) (l : Loc) (l' : Loc) (w' : World) : Prop where
  own : Own w.heap.size w' [l']
  same : er [l'] = er [l]
  keeps : Keeps none' w w'
  nodup : (blks [l']).Nodup
def Copied (l : Loc) : Prop := ∀ w, Rep w [l] → Calls Tryz.prog 35 #[.agg l.cells.toArray] w fun e w' => ∃ l', e = .returned (.agg l'.cells.toArray) ∧ CopyOne w l l' w'
theorem clone_own {w w' : World} {e k : Nat} {v : Value} {n : Nat} {vs : List Value} (h : w'.ownsRow w.heap.size e k v n vs) (h1 : ∀ u ∈ vs, u.oneCell' = true) (hn : n ≤ 536870912) : ∃ hd : Hd, v = (.slice hd.a hd.n hd.c) ∧ OwnR w.heap.size w' e k hd vs := by
  obtain ⟨hd, e1, e2, -, -⟩ := own_cells h h1
  subst e1
  subst e2
  exact ⟨hd, rfl, h, h1, hn⟩
theorem ints_one (l : List Int) : ∀ u ∈ ints l, u.oneCell' = true := by
  intro u hu
  obtain ⟨z, -, rfl⟩ := List.mem_map.1 hu
  rfl
theorem bytes_one (l : List Int) : ∀ u ∈ bytes l, u.oneCell' = true := by
  intro u hu
  obtain ⟨z, -, rfl⟩ := List.mem_map.1 hu
  rfl
/-- A block of nineteen cells, written over. -/
theorem block19 {w : World} {R : Nat} {c : Array Value} (hc : w.heap[R]? = some (.cells c 51 (0, 0))) (hs : c.size = 19) (d : Dat) (p m q k : Hd) :
    ((((((((((((((((((((w.setCell ⟨R, 0, none⟩ (.int .i64 d.id)).setCell ⟨R, 1, none⟩ (.int .i64 d.kind)).setCell ⟨R, 2, none⟩ (.bool d.hid)).setCell ⟨R, 3, none⟩ (.int .i64 d.op)).setCell ⟨R, 4, none⟩ (.int .i64 d.mode)).setCell ⟨R, 5, none⟩ (.int .i64 d.w)).setCell ⟨R, 6, none⟩ (.int .i64 d.h)).setCell ⟨R, 7, none⟩ ((.slice p.a p.n p.c))).setCell ⟨R, 8, none⟩ ((.slice m.a m.n m.c))).setCell ⟨R, 9, none⟩ (.int .i64 d.ma)).setCell ⟨R, 10, none⟩ (.int .i64 d.mb)).setCell ⟨R, 11, none⟩ (.int .i64 d.mc)).setCell ⟨R, 12, none⟩ (.int .i64 d.md)).setCell ⟨R, 13, none⟩ (.int .i64 d.me)).setCell ⟨R, 14, none⟩ (.int .i64 d.mf)).setCell ⟨R, 15, none⟩ (.bool d.smooth)).setCell ⟨R, 16, none⟩ (.int .i64 d.table)).setCell ⟨R, 17, none⟩ ((.slice q.a q.n q.c))).setCell ⟨R, 18, none⟩ ((.slice k.a k.n k.c)))).heap[R]? = some (.cells (cells19 d p m q k).toArray 51 (0, 0)) := by
  obtain ⟨l⟩ := c
  match l, hs with
  | [x0, x1, x2, x3, x4, x5, x6, x7, x8, x9, x10, x11, x12, x13, x14, x15, x16, x17, x18], _ =>
    have h0 := block_set (i := 0) hc (.int .i64 d.id)
    simp only [List.setIfInBounds_toArray, List.set_cons_zero, List.set_cons_succ] at h0
    have h1 := block_set (i := 1) h0 (.int .i64 d.kind)
    simp only [List.setIfInBounds_toArray, List.set_cons_zero, List.set_cons_succ] at h1
    have h2 := block_set (i := 2) h1 (.bool d.hid)
    simp only [List.setIfInBounds_toArray, List.set_cons_zero, List.set_cons_succ] at h2
    have h3 := block_set (i := 3) h2 (.int .i64 d.op)
    simp only [List.setIfInBounds_toArray, List.set_cons_zero, List.set_cons_succ] at h3
    have h4 := block_set (i := 4) h3 (.int .i64 d.mode)
    simp only [List.setIfInBounds_toArray, List.set_cons_zero, List.set_cons_succ] at h4
    have h5 := block_set (i := 5) h4 (.int .i64 d.w)
    simp only [List.setIfInBounds_toArray, List.set_cons_zero, List.set_cons_succ] at h5
    have h6 := block_set (i := 6) h5 (.int .i64 d.h)
    simp only [List.setIfInBounds_toArray, List.set_cons_zero, List.set_cons_succ] at h6
    have h7 := block_set (i := 7) h6 ((.slice p.a p.n p.c))
    simp only [List.setIfInBounds_toArray, List.set_cons_zero, List.set_cons_succ] at h7
    have h8 := block_set (i := 8) h7 ((.slice m.a m.n m.c))
    simp only [List.setIfInBounds_toArray, List.set_cons_zero, List.set_cons_succ] at h8
    have h9 := block_set (i := 9) h8 (.int .i64 d.ma)
    simp only [List.setIfInBounds_toArray, List.set_cons_zero, List.set_cons_succ] at h9
    have h10 := block_set (i := 10) h9 (.int .i64 d.mb)
    simp only [List.setIfInBounds_toArray, List.set_cons_zero, List.set_cons_succ] at h10
    have h11 := block_set (i := 11) h10 (.int .i64 d.mc)
    simp only [List.setIfInBounds_toArray, List.set_cons_zero, List.set_cons_succ] at h11
    have h12 := block_set (i := 12) h11 (.int .i64 d.md)
    simp only [List.setIfInBounds_toArray, List.set_cons_zero, List.set_cons_succ] at h12
    have h13 := block_set (i := 13) h12 (.int .i64 d.me)
    simp only [List.setIfInBounds_toArray, List.set_cons_zero, List.set_cons_succ] at h13
    have h14 := block_set (i := 14) h13 (.int .i64 d.mf)
    simp only [List.setIfInBounds_toArray, List.set_cons_zero, List.set_cons_succ] at h14
    have h15 := block_set (i := 15) h14 (.bool d.smooth)
    simp only [List.setIfInBounds_toArray, List.set_cons_zero, List.set_cons_succ] at h15
    have h16 := block_set (i := 16) h15 (.int .i64 d.table)
    simp only [List.setIfInBounds_toArray, List.set_cons_zero, List.set_cons_succ] at h16
    have h17 := block_set (i := 17) h16 ((.slice q.a q.n q.c))
    simp only [List.setIfInBounds_toArray, List.set_cons_zero, List.set_cons_succ] at h17
    have h18 := block_set (i := 18) h17 ((.slice k.a k.n k.c))
    simp only [List.setIfInBounds_toArray, List.set_cons_zero, List.set_cons_succ] at h18
    exact h18
set_option maxRecDepth 100000 in
set_option maxHeartbeats 6400000 in
theorem copied_of (d : Dat) (p m q k : Hd) (kids : List Loc) (HK : Copies kids) : Copied (.mk d p m q k kids) := by
  intro w hr
  unfold Rep at hr
  rw [All] at hr
  obtain ⟨r1, r2, r3, r4, r5, -⟩ := hr
  have RP := Lib.hid r1
  have RM := Lib.hid r2
  have RQ := Lib.hid r3
  have RK := Lib.hid (And.intro r4 (show Rep w kids from r5))
  have HC := Lib.hid HK
  clear r1 r2 r3 r4 r5 HK
  show Calls Tryz.prog 35 #[.agg #[.int .i64 d.id, .int .i64 d.kind, .bool d.hid, .int .i64 d.op, .int .i64 d.mode, .int .i64 d.w, .int .i64 d.h, (.slice p.a p.n p.c), (.slice m.a m.n m.c), .int .i64 d.ma, .int .i64 d.mb, .int .i64 d.mc, .int .i64 d.md, .int .i64 d.me, .int .i64 d.mf, .bool d.smooth, .int .i64 d.table, (.slice q.a q.n q.c), (.slice k.a k.n k.c)]] w _
  have A0 := Lib.hid ((Lb.new w d p m q k).alloc (.cells #[.int .i64 0, .int .i64 0, .bool false, .int .i64 0, .int .i64 0, .int .i64 0, .int .i64 0, .slice none 0 0, .slice none 0 0, .int .i64 0, .int .i64 0, .int .i64 0, .int .i64 0, .int .i64 0, .int .i64 0, .bool false, .int .i64 0, .slice none 0 0, .slice none 0 0] 51))
  have R0 := Lib.hid (show ((w.alloc (.cells (cells19 d p m q k).toArray 51)).alloc (.cells #[.int .i64 0, .int .i64 0, .bool false, .int .i64 0, .int .i64 0, .int .i64 0, .int .i64 0, .slice none 0 0, .slice none 0 0, .int .i64 0, .int .i64 0, .int .i64 0, .int .i64 0, .int .i64 0, .int .i64 0, .bool false, .int .i64 0, .slice none 0 0, .slice none 0 0] 51)).heap[w.heap.size + 1]? = some (.cells #[.int .i64 0, .int .i64 0, .bool false, .int .i64 0, .int .i64 0, .int .i64 0, .int .i64 0, .slice none 0 0, .slice none 0 0, .int .i64 0, .int .i64 0, .int .i64 0, .int .i64 0, .int .i64 0, .int .i64 0, .bool false, .int .i64 0, .slice none 0 0, .slice none 0 0] 51 (0, 0)) from by
    have := heap_alloc_new (w.alloc (.cells (cells19 d p m q k).toArray 51)) (.cells #[.int .i64 0, .int .i64 0, .bool false, .int .i64 0, .int .i64 0, .int .i64 0, .int .i64 0, .slice none 0 0, .slice none 0 0, .int .i64 0, .int .i64 0, .int .i64 0, .int .i64 0, .int .i64 0, .int .i64 0, .bool false, .int .i64 0, .slice none 0 0, .slice none 0 0] 51)
    simpa using this)
  have K0 := Lib.hid (((Keeps.refl none' w).alloc (.cells (cells19 d p m q k).toArray 51)).alloc (.cells #[.int .i64 0, .int .i64 0, .bool false, .int .i64 0, .int .i64 0, .int .i64 0, .int .i64 0, .slice none 0 0, .slice none 0 0, .int .i64 0, .int .i64 0, .int .i64 0, .int .i64 0, .int .i64 0, .int .i64 0, .bool false, .int .i64 0, .slice none 0 0, .slice none 0 0] 51))
  have S0 := Lib.hid (show ((w.alloc (.cells (cells19 d p m q k).toArray 51)).alloc (.cells #[.int .i64 0, .int .i64 0, .bool false, .int .i64 0, .int .i64 0, .int .i64 0, .int .i64 0, .slice none 0 0, .slice none 0 0, .int .i64 0, .int .i64 0, .int .i64 0, .int .i64 0, .int .i64 0, .int .i64 0, .bool false, .int .i64 0, .slice none 0 0, .slice none 0 0] 51)).heap.size = w.heap.size + 2 from by simp)
  go_enter Tryz.func35, Tryz.ntmps35
  go_upto_region 1 with (fail)
  change Code.wp _ _ _ _ ((w.alloc (.cells (cells19 d p m q k).toArray 51)).alloc (.cells #[.int .i64 0, .int .i64 0, .bool false, .int .i64 0, .int .i64 0, .int .i64 0, .int .i64 0, .slice none 0 0, .slice none 0 0, .int .i64 0, .int .i64 0, .int .i64 0, .int .i64 0, .int .i64 0, .int .i64 0, .bool false, .int .i64 0, .slice none 0 0, .slice none 0 0] 51))
  generalize (w.alloc (.cells (cells19 d p m q k).toArray 51)).alloc (.cells #[.int .i64 0, .int .i64 0, .bool false, .int .i64 0, .int .i64 0, .int .i64 0, .int .i64 0, .slice none 0 0, .slice none 0 0, .int .i64 0, .int .i64 0, .int .i64 0, .int .i64 0, .int .i64 0, .int .i64 0, .bool false, .int .i64 0, .slice none 0 0, .slice none 0 0] 51) = w1 at *
  obtain ⟨A, hA⟩ : ∃ A, A = w.heap.size := ⟨_, rfl⟩
  obtain ⟨R, hR⟩ : ∃ R, R = w.heap.size + 1 := ⟨_, rfl⟩
  rw [← hA] at A0
  rw [← hR] at R0
  rw [← hR, ← hA]
  have AR := Lib.hid (show w.heap.size ≤ A ∧ A < R ∧ R < w1.heap.size ∧ A ≠ R from ⟨by omega, by omega, by rw [S0.out]; omega, by omega⟩)
  clear hA hR S0
  have a7 := A0.out.c7
  go_wp2_with fail
  refine (clone_ints p (ints d.p) _ (RP.out.1.later K0.out) RP.out.2).mono ?_
  rintro e v0 ⟨v', rfl, hv, hk⟩
  obtain ⟨p', rfl, ho⟩ := clone_own hv (ints_one _) RP.out.2
  have SP := Lib.hid (show w1.heap.size ≤ v0.heap.size ∧ A < w1.heap.size ∧ R < w1.heap.size from ⟨hk.size, A0.out.lt, lt_of_block R0.out⟩)
  have OP := Lib.hid (ho.set (i := 7) (A := A) (by have := SP.out; omega) (.slice p'.a p'.n p'.c))
  have NP := Lib.hid (show ∀ b ∈ p'.blk, w1.heap.size ≤ b ∧ b < v0.heap.size from ho.range)
  clear hv ho a7
  have a7 := (A0.out.later hk).c7
  have f7 := (A0.out.later hk).fr (i := 7)
  have A1 := Lib.hid ((A0.out.later hk).s7 p')
  have R1 := Lib.hid ((Below.heap_setCell _ ⟨A, 7, none⟩ (.slice p'.a p'.n p'.c) R (by have := AR.out; simp only; omega)).trans ((hk.later R (by have := SP.out; omega)).trans R0.out))
  have K1 := Lib.hid ((K0.out.next hk).setCell (p := ⟨A, 7, none⟩) (fun e => by have := AR.out; simp only at e; omega) (.slice p'.a p'.n p'.c))
  have Z1 := Lib.hid (show ((v0.setCell ⟨A, 7, none⟩ (.slice p'.a p'.n p'.c)).heap.size = v0.heap.size) from by simp [World.setCell])
  clear hk A0 R0 K0 
  go_upto_region 2 with (fail)
  clear a7 f7
  generalize v0.setCell ⟨A, 7, none⟩ (.slice p'.a p'.n p'.c) = x0 at *
  have a8 := A1.out.c8
  go_wp2_with fail
  refine (clone_bytes m (bytes d.mask) _ (RM.out.1.later K1.out) RM.out.2).mono ?_
  rintro e v1 ⟨v', rfl, hv, hk⟩
  obtain ⟨m', rfl, ho⟩ := clone_own hv (bytes_one _) RM.out.2
  have SM := Lib.hid (show x0.heap.size ≤ v1.heap.size ∧ A < x0.heap.size ∧ R < x0.heap.size from ⟨hk.size, A1.out.lt, lt_of_block R1.out⟩)
  have OM := Lib.hid (ho.set (i := 8) (A := A) (by have := SM.out; omega) (.slice m'.a m'.n m'.c))
  have NM := Lib.hid (show ∀ b ∈ m'.blk, x0.heap.size ≤ b ∧ b < v1.heap.size from ho.range)
  clear hv ho a8
  have a8 := (A1.out.later hk).c8
  have f8 := (A1.out.later hk).fr (i := 8)
  have OP1 := Lib.hid ((OP.out.later hk).set (i := 8) (A := A) (by have := SP.out; omega) (.slice m'.a m'.n m'.c))
  have A2 := Lib.hid ((A1.out.later hk).s8 m')
  have R2 := Lib.hid ((Below.heap_setCell _ ⟨A, 8, none⟩ (.slice m'.a m'.n m'.c) R (by have := AR.out; simp only; omega)).trans ((hk.later R (by have := SM.out; omega)).trans R1.out))
  have K2 := Lib.hid ((K1.out.next hk).setCell (p := ⟨A, 8, none⟩) (fun e => by have := AR.out; simp only at e; omega) (.slice m'.a m'.n m'.c))
  have Z2 := Lib.hid (show ((v1.setCell ⟨A, 8, none⟩ (.slice m'.a m'.n m'.c)).heap.size = v1.heap.size) from by simp [World.setCell])
  clear hk A1 R1 K1 OP
  have OP := OP1
  clear OP1
  go_upto_region 3 with (fail)
  clear a8 f8
  generalize v1.setCell ⟨A, 8, none⟩ (.slice m'.a m'.n m'.c) = x1 at *
  have a17 := A2.out.c17
  go_wp2_with fail
  refine (clone_ints q (ints d.pars) _ (RQ.out.1.later K2.out) RQ.out.2).mono ?_
  rintro e v2 ⟨v', rfl, hv, hk⟩
  obtain ⟨q', rfl, ho⟩ := clone_own hv (ints_one _) RQ.out.2
  have SQ := Lib.hid (show x1.heap.size ≤ v2.heap.size ∧ A < x1.heap.size ∧ R < x1.heap.size from ⟨hk.size, A2.out.lt, lt_of_block R2.out⟩)
  have OQ := Lib.hid (ho.set (i := 17) (A := A) (by have := SQ.out; omega) (.slice q'.a q'.n q'.c))
  have NQ := Lib.hid (show ∀ b ∈ q'.blk, x1.heap.size ≤ b ∧ b < v2.heap.size from ho.range)
  clear hv ho a17
  have a17 := (A2.out.later hk).c17
  have f17 := (A2.out.later hk).fr (i := 17)
  have OP2 := Lib.hid ((OP.out.later hk).set (i := 17) (A := A) (by have := SP.out; omega) (.slice q'.a q'.n q'.c))
  have OM2 := Lib.hid ((OM.out.later hk).set (i := 17) (A := A) (by have := SM.out; omega) (.slice q'.a q'.n q'.c))
  have A3 := Lib.hid ((A2.out.later hk).s17 q')
  have R3 := Lib.hid ((Below.heap_setCell _ ⟨A, 17, none⟩ (.slice q'.a q'.n q'.c) R (by have := AR.out; simp only; omega)).trans ((hk.later R (by have := SQ.out; omega)).trans R2.out))
  have K3 := Lib.hid ((K2.out.next hk).setCell (p := ⟨A, 17, none⟩) (fun e => by have := AR.out; simp only at e; omega) (.slice q'.a q'.n q'.c))
  have Z3 := Lib.hid (show ((v2.setCell ⟨A, 17, none⟩ (.slice q'.a q'.n q'.c)).heap.size = v2.heap.size) from by simp [World.setCell])
  clear hk A2 R2 K2 OP OM
  have OP := OP2
  clear OP2
  have OM := OM2
  clear OM2
  go_upto_region 4 with (fail)
  clear a17 f17
  generalize v2.setCell ⟨A, 17, none⟩ (.slice q'.a q'.n q'.c) = x2 at *
  have a18 := A3.out.c18
  go_wp2_with fail
  refine (HC.out k _ (RK.out.1.keep K3.out (fun _ _ h => h)) (RK.out.2.later K3.out)).mono ?_
  rintro e v3 ⟨k', ks', rfl, hcp⟩
  have CP := Lib.hid hcp
  clear a18
  have SK := Lib.hid (show x2.heap.size ≤ v3.heap.size ∧ A < x2.heap.size ∧ R < x2.heap.size from ⟨hcp.keeps.size, A3.out.lt, lt_of_block R3.out⟩)
  have a18 := (A3.out.later hcp.keeps).c18
  have f18 := (A3.out.later hcp.keeps).fr (i := 18)
  have OP3 := Lib.hid ((OP.out.later hcp.keeps).set (i := 18) (A := A) (by have := SP.out; omega) (.slice k'.a k'.n k'.c))
  have OM3 := Lib.hid ((OM.out.later hcp.keeps).set (i := 18) (A := A) (by have := SM.out; omega) (.slice k'.a k'.n k'.c))
  have OQ3 := Lib.hid ((OQ.out.later hcp.keeps).set (i := 18) (A := A) (by have := SQ.out; omega) (.slice k'.a k'.n k'.c))
  have OK := Lib.hid (hcp.row.set (i := 18) (A := A) (by have := SK.out; omega) (.slice k'.a k'.n k'.c))
  have OS := Lib.hid (hcp.own.set (i := 18) (A := A) (by have := SK.out; omega) (.slice k'.a k'.n k'.c))
  have A4 := Lib.hid ((A3.out.later hcp.keeps).s18 k')
  have R4 := Lib.hid ((Below.heap_setCell _ ⟨A, 18, none⟩ (.slice k'.a k'.n k'.c) R (by have := AR.out; simp only; omega)).trans ((hcp.keeps.later R (by have := SK.out; omega)).trans R3.out))
  have K4 := Lib.hid ((K3.out.next hcp.keeps).setCell (p := ⟨A, 18, none⟩) (fun e => by have := AR.out; simp only at e; omega) (.slice k'.a k'.n k'.c))
  have Z4 := Lib.hid (show ((v3.setCell ⟨A, 18, none⟩ (.slice k'.a k'.n k'.c)).heap.size = v3.heap.size) from by simp [World.setCell])
  clear hcp A3 R3 K3 OP OM OQ
  go_upto_region 5 with (fail)
  clear a18 f18
  generalize v3.setCell ⟨A, 18, none⟩ (.slice k'.a k'.n k'.c) = x3 at *
  have ALL1 : (cells19 d p' m' q' k').toArray.all (·.oneCell') = true := by
    rw [Array.all_eq_true_iff_forall_mem]
    intro u hu
    have h : u ∈ cells19 d p' m' q' k' := by simpa using hu
    exact Loc.cells_one (.mk d p' m' q' k' ks') u h
  go_wp2_with (first
    | (refine wpList_load_row rfl 51 _ rfl A rfl 51 (cells19 d p' m' q' k').toArray (0, 0) _ A4.out Tryz.underlying51 rfl (by exact size48) ?_)
    | (refine wpList_store_row rfl 51 _ _ rfl R (cells19 d p' m' q' k').toArray rfl rfl 51 _ R4.out (by exact size48) rfl ALL1 ?_))
  refine bodyPost_ret (results_cell_row rfl _ _ R 51 (cells19 d p' m' q' k').toArray (0, 0) _ rfl (setRow_heap _ _ _ _ _ _ R4.out) Tryz.underlying51 rfl (by exact size48)) rfl ?_
  have e0 := Z1.out
  have e1 := Z2.out
  have e2 := Z3.out
  have e3 := AR.out
  have sp := SP.out
  have sm := SM.out
  have sq := SQ.out
  have sk := SK.out
  refine ⟨.mk d p' m' q' k' ks', rfl, ?_, ?_, ?_, ?_⟩
  · unfold Own
    rw [All]
    refine ⟨(OP3.out.keep (keeps_row _ R _) fun x hx e => ?_).low (by omega), (OM3.out.keep (keeps_row _ R _) fun x hx e => ?_).low (by omega), (OQ3.out.keep (keeps_row _ R _) fun x hx e => ?_).low (by omega), (OK.out.keep (keeps_row _ R _) fun x hx e => ?_).low (by omega), (OS.out.keep (keeps_row _ R _) fun b hb e => ?_).low (by omega), by rw [All]; trivial⟩
    · have := (OP3.out.read.2 x hx).1; omega
    · have := (OM3.out.read.2 x hx).1; omega
    · have := (OQ3.out.read.2 x hx).1; omega
    · have := (OK.out.read.2 x hx).1; omega
    · have := (OS.out.range b hb).1; omega
  · rw [er, er, CP.out.same, er, er]
  · exact K4.out.setRow (by omega) _
  · show (List.flatMap Hd.blk (hds [Loc.mk d p' m' q' k' ks'])).Nodup
    rw [hds, hds, List.append_nil]
    simp only [List.flatMap_cons]
    have nk := CP.out.nodup
    have r5 : ∀ b ∈ k'.blk ++ blks ks', x2.heap.size ≤ b := fun b hb => by
      rcases List.mem_append.1 hb with h | h
      · exact (CP.out.row.range b h).1
      · exact (CP.out.own.range b h).1
    have nq : (q'.blk ++ (k'.blk ++ blks ks')).Nodup := nodup_app (Hd.blk_nodup _) nk (fun x hx => (NQ.out x hx).2) (fun y hy => by have := r5 y hy; omega)
    have r4 : ∀ b ∈ q'.blk ++ (k'.blk ++ blks ks'), x1.heap.size ≤ b := fun b hb => by
      rcases List.mem_append.1 hb with h | h
      · exact (NQ.out b h).1
      · have := r5 b h; omega
    have nm : (m'.blk ++ (q'.blk ++ (k'.blk ++ blks ks'))).Nodup := nodup_app (Hd.blk_nodup _) nq (fun x hx => (NM.out x hx).2) (fun y hy => by have := r4 y hy; omega)
    have r3 : ∀ b ∈ m'.blk ++ (q'.blk ++ (k'.blk ++ blks ks')), x0.heap.size ≤ b := fun b hb => by
      rcases List.mem_append.1 hb with h | h
      · exact (NM.out b h).1
      · have := r4 b h; omega
    exact nodup_app (Hd.blk_nodup _) nm (fun x hx => (NP.out x hx).2) (fun y hy => by have := r3 y hy; omega)
end Go.Proofs.YtfcpbpfemmdklaaGreat.Tr

/- Copies of layers, all. (printed by genTD.py) -/
namespace Go.Proofs.YtfcpbpfemmdklaaGreat.Tr
open Go.RowKit
set_option linter.unusedSimpArgs false
set_option linter.unusedVariables false

theorem OwnR.some {B : Nat} {w : World} {h : Hd} {vs : List Value} (o : OwnR B w 51 19 h vs) (hn : 0 < h.n) : ∃ g c cur, h = ⟨some ⟨g, 0, none⟩, h.n, c⟩ ∧ B ≤ g ∧ w.heap[g]? = some (.cells cur 51 (0, 0)) ∧ h.n ≤ c ∧ cur.size = c * 19 ∧ cur.toList.take (h.n * 19) = vs := by
  obtain ⟨a, n, c⟩ := h
  rcases o.1.2 with ⟨e, e2⟩ | ⟨g, cap, cur, e, h1, h2, h3, h4, h5, h6⟩
  · simp only at e2 hn; omega
  · simp only [Value.slice.injEq] at e
    obtain ⟨rfl, -, rfl⟩ := e
    exact ⟨g, c, cur, rfl, h1, h2, h3, h5, h6⟩
theorem keeps_setCells (g : Nat) : ∀ (vs : List Value) (o : Nat) (w : World), Keeps (fun q => q = g) w (w.setCells g o vs)
  | [], o, w => Keeps.refl _ _
  | v :: vs, o, w => (keeps_at w g o v).trans (keeps_setCells g vs (o + 1) _) (fun i hi e => e)
theorem setCells_block (g : Nat) (t : TypeId) (f : Nat × Nat) : ∀ (vs : List Value) (o : Nat) (w : World) (cur : Array Value), w.heap[g]? = some (.cells cur t f) → o + vs.length ≤ cur.size →
    ∃ cur', (w.setCells g o vs).heap[g]? = some (.cells cur' t f) ∧ cur'.size = cur.size ∧ ∀ j, cur'[j]? = if o ≤ j ∧ j < o + vs.length then vs[j - o]? else cur[j]?
  | [], o, w, cur, h, hl => ⟨cur, h, rfl, fun j => by rw [if_neg (by simp only [List.length_nil]; omega)]⟩
  | v :: vs, o, w, cur, h, hl => by
    rw [List.length_cons] at hl
    obtain ⟨cur', h1, h2, h3⟩ := setCells_block g t f vs (o + 1) _ _ (block_set (i := o) h v) (by simp only [Array.size_setIfInBounds]; omega)
    refine ⟨cur', h1, by rw [h2, Array.size_setIfInBounds], fun j => ?_⟩
    rw [h3 j, List.length_cons]
    by_cases hj : j = o
    · subst hj
      rw [if_neg (by omega), if_pos (by omega), Nat.sub_self, Array.getElem?_setIfInBounds, if_pos rfl, if_pos (by omega)]
      rfl
    · by_cases hj2 : o + 1 ≤ j ∧ j < o + 1 + vs.length
      · rw [if_pos hj2, if_pos (by omega), show j - o = (j - (o + 1)) + 1 by omega, List.getElem?_cons_succ]
      · rw [if_neg hj2, if_neg (by omega), Array.getElem?_setIfInBounds, if_neg (fun e => hj e.symm)]
theorem row_put {cur cur' : Array Value} {m o : Nat} {A L L' C : List Value} (ht : cur.toList.take m = A ++ (L ++ C)) (ho : A.length = o) (hl : L.length = 19) (hl' : L'.length = 19) (hs : cur'.size = cur.size)
    (hj : ∀ j, cur'[j]? = if o ≤ j ∧ j < o + 19 then L'[j - o]? else cur[j]?) : cur'.toList.take m = A ++ (L' ++ C) := by
  refine List.ext_getElem? fun j => ?_
  have h1 : (cur.toList.take m)[j]? = (A ++ (L ++ C))[j]? := by rw [ht]
  have hlen : (cur.toList.take m).length = (A ++ (L ++ C)).length := by rw [ht]
  rw [List.length_take, List.length_append, List.length_append, Array.length_toList] at hlen
  by_cases hm : j < m
  · rw [List.getElem?_take_of_lt hm] at h1 ⊢
    rw [Array.getElem?_toList] at h1 ⊢
    rw [hj j]
    by_cases h2 : o ≤ j ∧ j < o + 19
    · rw [if_pos h2, List.getElem?_append_right (by omega), List.getElem?_append_left (by omega), ho]
    · rw [if_neg h2, h1]
      by_cases h3 : j < o
      · rw [List.getElem?_append_left (by omega), List.getElem?_append_left (by omega)]
      · rw [List.getElem?_append_right (by omega), List.getElem?_append_right (by omega), List.getElem?_append_right (by omega), List.getElem?_append_right (by omega), hl, hl']
  · rw [List.getElem?_eq_none (by rw [List.length_take]; omega), List.getElem?_eq_none (by rw [List.length_append, List.length_append, hl']; omega)]
theorem flat_one1 (l : Loc) : flat [l] = l.cells := by rw [flat, flat, List.append_nil]
theorem take_more {α : Type} {ys : List α} {i : Nat} {y : α} (h : ys[i]? = some y) : ys.take (i + 1) = ys.take i ++ [y] := by
  rw [List.take_add_one, h]; rfl
set_option maxRecDepth 100000 in
set_option maxHeartbeats 1600000 in
theorem copies_of (ls : List Loc) (H : ∀ l ∈ ls, Copied l) : Copies ls := by
  intro h w hr hp
  have HR := Lib.hid hr
  have HP := Lib.hid hp
  have HC := Lib.hid H
  have hn : h.n = ls.length := by
    have h1 := hr.1.len
    rw [flat_length] at h1
    omega
  have HN := Lib.hid (And.intro hn hr.2)
  clear hr hp H hn
  go_enter Tryz.func55, Tryz.ntmps55
  go_wp2_with fail
  refine (clone_layers h (flat ls) _ HR.out.1 HR.out.2).mono ?_
  rintro e w1 ⟨v', rfl, hv, hk⟩
  obtain ⟨h', rfl, ho⟩ := clone_own hv (flat_one _) HR.out.2
  obtain ⟨a', n, c'⟩ := h'
  have NL := Lib.hid (show n = ls.length from by
    have h1 := ho.read.1.1.len
    rw [flat_length] at h1
    simp only at h1
    omega)
  have HO := Lib.hid ho
  have K1 := Lib.hid hk
  have HB := Lib.hid (show ∀ b ∈ Hd.blk ⟨a', n, c'⟩, b < w1.heap.size from fun b hb => (ho.range b hb).2)
  clear hv ho hk
  dsimp only
  go_wp2_with fail
  go_loopw [9] (fun cnt wi => ∃ i : Nat, i ≤ n ∧ cnt = .int .i64 i ∧ ∃ ls', er ls' = er (ls.take i) ∧ OwnR w.heap.size wi 51 19 ⟨a', n, c'⟩ (flat (ls' ++ ls.drop i)) ∧ Own w1.heap.size wi ls' ∧ Keeps none' w wi ∧ w1.heap.size ≤ wi.heap.size ∧ (blks ls').Nodup) (fun cnt _ => n - (intOf cnt).toNat)
  case atStart => exact ⟨0, Nat.zero_le _, rfl, [], by simp, by simpa using HO.out, by unfold Own; rw [All]; trivial, K1.out, Nat.le_refl _, by unfold blks; rw [hds]; simp⟩
  case round =>
    obtain ⟨i, hi, rfl, ls', h1, h2, h3, h4, h5, h6⟩ := hrel
    have E1 := Lib.hid h1
    have E2 := Lib.hid h2
    have E3 := Lib.hid h3
    have E4 := Lib.hid h4
    have E5 := Lib.hid h5
    have E6 := Lib.hid h6
    have n29 := HN.out.2
    have nls := NL.out
    have n30 : n ≤ 536870912 := by have := HN.out.1; omega
    clear h1 h2 h3 h4 h5 h6
    by_cases hlt : i < n
    · have hii : (i : Int) < n := by omega
      obtain ⟨l, hl⟩ : ∃ l, ls[i]? = some l := ⟨_, List.getElem?_eq_getElem (by omega)⟩
      obtain ⟨g, c, cur, hh, hB, hg, hc, hs, ht⟩ := E2.out.some (by show 0 < n; omega)
      simp only [Hd.mk.injEq] at hh
      obtain ⟨rfl, -, rfl⟩ := hh
      have ll : ls'.length = i := by
        have h1 := er_length ls'
        rw [E1.out, er_length, List.length_take] at h1
        omega
      have RG := Lib.hid (show wr.rangeAt g (i * 19) l.cells from fun j u hj => by
        rw [cell_of_row _ _ _ _ _ _ hg]
        have h1 : (ls' ++ ls.drop i)[i]? = some l := by rw [List.getElem?_append_right (by omega), ll, Nat.sub_self, List.getElem?_drop, Nat.add_zero]; exact hl
        have h2 := flat_at _ i l h1 j u hj
        have hj19 : j < 19 := by have := (List.getElem?_eq_some_iff.1 hj).1; rw [Loc.cells_length] at this; exact this
        rw [← ht, List.getElem?_take_of_lt (by simp only; omega)] at h2
        rw [← Array.getElem?_toList]
        exact h2)
      have TH := Lib.hid (show ∀ w' : World, w'.heap[g]? = wr.heap[g]? → w'.there g (i * 19) 19 from fun w' e j hj => by
        rw [cell_of_row _ _ _ _ _ _ (e.trans hg)]
        refine ⟨by rw [Array.getElem?_eq_getElem (by simp only at hc; rw [hs]; omega)]; rfl, by simp [World.frozen?, e, hg]⟩)
      have GL := Lib.hid (lt_of_block hg)
      have GB := Lib.hid (HB.out g (by unfold Hd.blk; simp))
      have SZL : (Tryz.prog.info? 51).map (·.size) = some l.cells.length := by rw [Loc.cells_length]; exact size48
      have SZA : (Tryz.prog.info? 51).map (·.size) = some l.cells.toArray.size := by rw [List.size_toArray, Loc.cells_length]; exact size48
      have SZB : 19 = l.cells.toArray.size := by rw [List.size_toArray, Loc.cells_length]
      have ALLL : l.cells.toArray.all (·.oneCell') = true := by
        rw [Array.all_eq_true_iff_forall_mem]
        intro u hu
        exact l.cells_one u (by simpa using hu)
      have LF := Lib.hid (And.intro SZL (And.intro SZA (And.intro SZB ALLL)))
      clear SZL SZA SZB ALLL
      have HL := Lib.hid hl
      have HCS := Lib.hid (And.intro hc (And.intro hs ht))
      have HG := Lib.hid hg
      have HBG := Lib.hid hB
      clear hc hs ht hl hg hB ll nls
      go_upto_region 5 with (first
        | (refine wpList_load_mid rfl 51 _ rfl g (i * 19) rfl l.cells _ RG.out Tryz.underlying51 rfl LF.out.1 ?_)
        | (refine wpList_store_row rfl 51 _ _ rfl wr.heap.size l.cells.toArray rfl rfl 51 _ (heap_alloc_new _ _) LF.out.2.1 (by exact LF.out.2.2.1) LF.out.2.2.2 ?_))
      have LB := Lib.hid (setRow_heap (wr.alloc (.cells #[.int .i64 0, .int .i64 0, .bool false, .int .i64 0, .int .i64 0, .int .i64 0, .int .i64 0, .slice none 0 0, .slice none 0 0, .int .i64 0, .int .i64 0, .int .i64 0, .int .i64 0, .int .i64 0, .int .i64 0, .bool false, .int .i64 0, .slice none 0 0, .slice none 0 0] 51)) wr.heap.size _ l.cells.toArray _ _ (heap_alloc_new wr (.cells #[.int .i64 0, .int .i64 0, .bool false, .int .i64 0, .int .i64 0, .int .i64 0, .int .i64 0, .slice none 0 0, .slice none 0 0, .int .i64 0, .int .i64 0, .int .i64 0, .int .i64 0, .int .i64 0, .int .i64 0, .bool false, .int .i64 0, .slice none 0 0, .slice none 0 0] 51)))
      have K2 := Lib.hid (((Keeps.refl none' wr).alloc (.cells #[.int .i64 0, .int .i64 0, .bool false, .int .i64 0, .int .i64 0, .int .i64 0, .int .i64 0, .slice none 0 0, .slice none 0 0, .int .i64 0, .int .i64 0, .int .i64 0, .int .i64 0, .int .i64 0, .int .i64 0, .bool false, .int .i64 0, .slice none 0 0, .slice none 0 0] 51)).setRow (Nat.le_refl _) l.cells.toArray)
      generalize (wr.alloc (.cells #[.int .i64 0, .int .i64 0, .bool false, .int .i64 0, .int .i64 0, .int .i64 0, .int .i64 0, .slice none 0 0, .slice none 0 0, .int .i64 0, .int .i64 0, .int .i64 0, .int .i64 0, .int .i64 0, .int .i64 0, .bool false, .int .i64 0, .slice none 0 0, .slice none 0 0] 51)).setRow wr.heap.size l.cells.toArray = w2 at *
      obtain ⟨L, hL⟩ : ∃ L, L = wr.heap.size := ⟨_, rfl⟩
      rw [← hL] at LB
      rw [← hL]
      clear hL
      go_wp2_with (first
        | (refine wpList_load_row rfl 51 _ rfl L rfl 51 l.cells.toArray (0, 0) _ LB.out Tryz.underlying51 rfl LF.out.2.1 ?_))
      refine (HC.out l (List.mem_of_getElem? HL.out) w2 ((All.one HP.out HL.out).imp fun _ _ _ _ _ o => o.keep (E4.out.next K2.out) (fun _ _ h => h))).mono ?_
      rintro e w3 ⟨l', rfl, hcp⟩
      have CP := Lib.hid hcp
      clear hcp
      have G3 := Lib.hid (show w3.heap[g]? = some (.cells cur 51 (0, 0)) from ((CP.out.keeps.later g (by have := K2.out.size; have := GL.out; omega)).trans (K2.out.later g GL.out)).trans HG.out)
      have LF' := Lib.hid (show (Tryz.prog.info? 51).map (·.size) = some l'.cells.toArray.size ∧ l'.cells.toArray.size = 19 ∧ l'.cells.toArray.all (·.oneCell') = true from by
        have e19 : l'.cells.toArray.size = 19 := by rw [List.size_toArray, Loc.cells_length]
        refine ⟨by rw [e19]; exact size48, e19, ?_⟩
        rw [Array.all_eq_true_iff_forall_mem]
        intro u hu
        exact l'.cells_one u (by simpa using hu))
      have T3 := Lib.hid (show w3.there g (i * 19) l'.cells.toArray.size from by rw [LF'.out.2.1]; exact TH.out w3 (G3.out.trans HG.out.symm))
      obtain ⟨w4, hw4⟩ : ∃ w4, w4 = w3.setCells g (i * 19) l'.cells.toArray.toList := ⟨_, rfl⟩
      have W4 := Lib.hid hw4
      go_wp2_with (first
        | (refine wpList_store_mid rfl 51 _ _ rfl g (i * 19) l'.cells.toArray rfl rfl T3.out LF'.out.1 LF'.out.2.2 ?_; rw [← hw4]; clear hw4))
      have K4 := Lib.hid (show Keeps (fun q => q = g) w3 w4 from by rw [W4.out]; exact keeps_setCells g _ _ _)
      obtain ⟨cur', c1, c2, c3⟩ := setCells_block g 51 (0, 0) l'.cells (i * 19) w3 cur G3.out (by have := HCS.out.1; have := HCS.out.2.1; rw [Loc.cells_length]; omega)
      rw [show w3.setCells g (i * 19) l'.cells = w4 from by rw [W4.out]] at c1
      have hd : ls.drop i = l :: ls.drop (i + 1) := by
        have hi2 := (List.getElem?_eq_some_iff.1 HL.out).1
        have hg2 := (List.getElem?_eq_some_iff.1 HL.out).2
        rw [List.drop_eq_getElem_cons hi2, hg2]
      have ll : ls'.length = i := by
        have h1 := er_length ls'
        rw [E1.out, er_length, List.length_take] at h1
        have := NL.out
        omega
      have hrow : cur'.toList.take (n * 19) = flat ((ls' ++ [l']) ++ ls.drop (i + 1)) := by
        rw [List.append_assoc, flat_append, List.singleton_append, flat]
        refine row_put (o := i * 19) (L := l.cells) ?_ (by rw [flat_length, ll]) (Loc.cells_length _) (Loc.cells_length _) c2 (fun j => by rw [c3 j, Loc.cells_length])
        have h1 := HCS.out.2.2
        rw [hd, flat_append, flat] at h1
        exact h1
      have R5 := Lib.hid (show OwnR w.heap.size w4 51 19 ⟨some ⟨g, 0, none⟩, n, c'⟩ (flat ((ls' ++ [l']) ++ ls.drop (i + 1))) from by
        refine ⟨⟨?_, .inr ⟨g, c', cur', rfl, HBG.out, c1, HCS.out.1, ?_, by rw [c2]; exact HCS.out.2.1, hrow⟩⟩, flat_one _, by have := NL.out; have := HN.out; show n ≤ _; omega⟩
        · show (flat ((ls' ++ [l']) ++ ls.drop (i + 1))).length = n * 19
          have h1 : n ≤ c' := HCS.out.1
          rw [← hrow, List.length_take, Array.length_toList, c2, HCS.out.2.1]
          omega
        · rcases E2.out.1.2 with ⟨e, -⟩ | ⟨g2, cap2, cur2, e, h1, h2, h3, h4, h5⟩
          · cases e
          · cases e; exact h4)
      have O5 := Lib.hid (show Own w1.heap.size w4 (ls' ++ [l']) from All.append.2 ⟨((E3.out.later K2.out).later CP.out.keeps).keep K4.out (fun b hb e => by have := (E3.out.range b hb).1; have := GB.out; omega),
        (CP.out.own.keep K4.out (fun b hb e => by have := (CP.out.own.range b hb).1; have := GL.out; have := K2.out.size; omega)).low (by have := E5.out; have := K2.out.size; omega)⟩)
      have K5 := Lib.hid (((E4.out.next K2.out).next CP.out.keeps).trans K4.out (fun q hq e => by have e' : q = g := e; have := HBG.out; omega))
      have S5 := Lib.hid (show w1.heap.size ≤ w4.heap.size from by have := E5.out; have := K2.out.size; have := CP.out.keeps.size; have := K4.out.size; omega)
      have N5 := Lib.hid (show (blks (ls' ++ [l'])).Nodup from by
        rw [blks_append]
        exact nodup_app E6.out CP.out.nodup (fun x hx => (E3.out.range x hx).2) (fun y hy => by have := (CP.out.own.range y hy).1; have := K2.out.size; omega))
      have R1 := Lib.hid (show er (ls' ++ [l']) = er (ls.take (i + 1)) from by rw [er_append, E1.out, CP.out.same, take_more HL.out, er_append])
      clear c1 c2 c3 hd ll hrow
      go_wp2_with fail
      go_roundw
      case rel => exact ⟨i + 1, by omega, by go_num, ls' ++ [l'], R1.out, R5.out, O5.out, K5.out, S5.out, N5.out⟩
      case measure => simp [intOf]; omega
    · obtain rfl : i = n := by omega
      have t8 : decide (i < i) = false := by simp
      clear nls
      go_wp2_with fail
      go_ret
      have hd : ls.drop i = [] := List.drop_eq_nil_of_le (by have := NL.out; omega)
      have htk : ls.take i = ls := List.take_of_length_le (by have := NL.out; omega)
      refine ⟨⟨a', i, c'⟩, ls', rfl, ?_, E3.out.low K1.out.size, by rw [E1.out, htk], E4.out, ?_⟩
      · have h1 := E2.out
        rw [hd, List.append_nil] at h1
        exact h1
      · exact nodup_app (Hd.blk_nodup _) E6.out (fun x hx => HB.out x hx) (fun y hy => (E3.out.range y hy).1)
theorem copies_fuel : ∀ (n : Nat) (ls : List Loc), SizeOf.sizeOf ls ≤ n → Copies ls
  | 0, ls, h => by cases ls <;> simp at h
  | n + 1, ls, h => copies_of ls (fun l hl => by
    cases l with
    | mk d p m q k kids =>
      have hs := List.sizeOf_lt_of_mem hl
      simp only [Loc.mk.sizeOf_spec] at hs
      exact copied_of d p m q k kids (copies_fuel n kids (by omega)))
/-- Layers, copied: whatever they are. -/
theorem copies_any (ls : List Loc) : Copies ls := copies_fuel _ ls (Nat.le_refl _)
theorem copied_any (l : Loc) : Copied l := by
  cases l with
  | mk d p m q k kids => exact copied_of d p m q k kids (copies_any kids)
end Go.Proofs.YtfcpbpfemmdklaaGreat.Tr

/- A layer where it stands, the home within it, a document's root. (printed by genTE.py) -/
namespace Go.Proofs.YtfcpbpfemmdklaaGreat.Tr
open Go.RowKit
set_option linter.unusedSimpArgs false
set_option linter.unusedVariables false

/-- Layers that stand in a home: the pointer to their header, the header, what they are. -/
structure Home (w : World) (kb ko : Nat) (h : Hd) (ls : List Loc) : Prop where
  ptr : w.cell? ⟨kb, ko, none⟩ = some (.slice h.a h.n h.c)
  row : ReadR w 51 19 h (flat ls)
  rep : Rep w ls
theorem Home.len {w : World} {kb ko : Nat} {h : Hd} {ls : List Loc} (H : Home w kb ko h ls) : h.n = ls.length := by
  have h1 := H.row.1.len
  rw [flat_length] at h1
  omega
theorem Home.later {w w' : World} {kb ko : Nat} {h : Hd} {ls : List Loc} (H : Home w kb ko h ls) (k : Keeps none' w w') : Home w' kb ko h ls :=
  ⟨k.cell H.ptr, H.row.keep k (fun _ _ h => h), H.rep.later k⟩
/-- Where the layers lie. -/
theorem Home.lies {w : World} {kb ko : Nat} {h : Hd} {ls : List Loc} (H : Home w kb ko h ls) (hn : 0 < ls.length) : ∃ b o, h.a = some ⟨b, o, none⟩ ∧ ∀ (i : Nat) (l : Loc), ls[i]? = some l → ∀ (j : Nat) (u : Value), l.cells[j]? = some u → w.cell? ⟨b, o + i * 19 + j, none⟩ = some u := by
  have hl := H.len
  cases hx : h.a with
  | none => have := (H.row.1.abs hx).1; omega
  | some x =>
    obtain ⟨h1, h2, h3⟩ := H.row.1.at' x hx
    obtain ⟨b, o, sp⟩ := x
    simp only at h1
    subst h1
    refine ⟨b, o, rfl, fun i l hli j u hj => ?_⟩
    have := h3 (i * 19 + j) u (flat_at ls i l hli j u hj)
    rw [show o + i * 19 + j = o + (i * 19 + j) by omega]
    exact this
/-- The kids of a layer that stands there. -/
theorem Home.kids {w : World} {kb ko : Nat} {h : Hd} {ls : List Loc} (H : Home w kb ko h ls) {b o : Nat} (hx : h.a = some ⟨b, o, none⟩) {i : Nat} {l : Loc} (hl : ls[i]? = some l) : Home w b (o + i * 19 + 18) l.kh l.kids := by
  have hn : 0 < ls.length := by have := (List.getElem?_eq_some_iff.1 hl).1; omega
  obtain ⟨b', o', e, hc⟩ := H.lies hn
  rw [hx] at e
  cases e
  have h1 := All.one H.rep hl
  obtain ⟨d, p, m, q, k, ks⟩ := l
  rw [All] at h1
  exact ⟨hc i _ hl 18 _ rfl, h1.2.2.2.1, h1.2.2.2.2.1⟩
/-- A spot in a block of its own. -/
def Sp (w : World) (S : Nat) (id : Int) (kb ko : Nat) (dep : Int) (i : Int) : Prop := w.heap[S]? = some (.cells #[.int .i64 id, .pointer (some ⟨kb, ko, none⟩), .int .i64 dep, .int .i64 i] 86 (0, 0))
theorem Sp.lt {w : World} {S : Nat} {id : Int} {kb ko : Nat} {dep i : Int} (h : Sp w S id kb ko dep i) : S < w.heap.size := lt_of_block h
theorem Sp.c0 {w : World} {S : Nat} {id : Int} {kb ko : Nat} {dep i : Int} (h : Sp w S id kb ko dep i) : w.cell? ⟨S, 0, none⟩ = some (.int .i64 id) := by simp [World.cell?, show w.heap[S]? = _ from h]
theorem Sp.c1 {w : World} {S : Nat} {id : Int} {kb ko : Nat} {dep i : Int} (h : Sp w S id kb ko dep i) : w.cell? ⟨S, 1, none⟩ = some (.pointer (some ⟨kb, ko, none⟩)) := by simp [World.cell?, show w.heap[S]? = _ from h]
theorem Sp.c2 {w : World} {S : Nat} {id : Int} {kb ko : Nat} {dep i : Int} (h : Sp w S id kb ko dep i) : w.cell? ⟨S, 2, none⟩ = some (.int .i64 dep) := by simp [World.cell?, show w.heap[S]? = _ from h]
theorem Sp.c3 {w : World} {S : Nat} {id : Int} {kb ko : Nat} {dep i : Int} (h : Sp w S id kb ko dep i) : w.cell? ⟨S, 3, none⟩ = some (.int .i64 i) := by simp [World.cell?, show w.heap[S]? = _ from h]
theorem Sp.fr {w : World} {S j : Nat} {id : Int} {kb ko : Nat} {dep i : Int} (h : Sp w S id kb ko dep i) : w.frozen? ⟨S, j, none⟩ = false := by simp [World.frozen?, show w.heap[S]? = _ from h]
theorem Sp.new (w : World) (id : Int) (kb ko : Nat) (dep i : Int) : Sp (w.alloc (.cells #[.int .i64 id, .pointer (some ⟨kb, ko, none⟩), .int .i64 dep, .int .i64 i] 86)) w.heap.size id kb ko dep i := heap_alloc_new _ _
theorem Sp.later {w w' : World} {S : Nat} {id : Int} {kb ko : Nat} {dep i : Int} (h : Sp w S id kb ko dep i) (k : Keeps none' w w') : Sp w' S id kb ko dep i := (k.later S h.lt).trans h
set_option maxRecDepth 100000 in
set_option maxHeartbeats 800000 in
theorem layer_any (id : Int) (kb ko : Nat) (dep : Int) (h : Hd) (ls : List Loc) (i : Nat) (l : Loc) (b o : Nat) (w : World) (H : Home w kb ko h ls) (hx : h.a = some ⟨b, o, none⟩) (hl : ls[i]? = some l) :
    Calls Tryz.prog 34 #[.agg #[.int .i64 id, .pointer (some ⟨kb, ko, none⟩), .int .i64 dep, .int .i64 (i : Int)]] w fun e w' => e = .returned (.pointer (some ⟨b, o + i * 19, none⟩)) ∧ Keeps none' w w' := by
  have hn := H.len
  have hi := (List.getElem?_eq_some_iff.1 hl).1
  have hb := H.row.2
  obtain ⟨a, n, c⟩ := h
  simp only at hn hb hx
  subst hx
  have S0 := Lib.hid (Sp.new w id kb ko dep i)
  have K0 := Lib.hid ((Keeps.refl none' w).alloc (.cells #[.int .i64 id, .pointer (some ⟨kb, ko, none⟩), .int .i64 dep, .int .i64 (i : Int)] 86))
  have hc := K0.out.cell H.ptr
  simp only at hc
  have hin : i < n := by omega
  have hii : (i : Int) < n := by omega
  have hi0 : (0 : Int) ≤ (i : Int) := by omega
  clear hn hi H hl
  go_enter Tryz.func34, Tryz.ntmps34
  go_upto_region 1 with (fail)
  generalize w.alloc (.cells #[.int .i64 id, .pointer (some ⟨kb, ko, none⟩), .int .i64 dep, .int .i64 (i : Int)] 86) = w1 at *
  generalize w.heap.size = S at *
  have s1 := S0.out.c1
  have s3 := S0.out.c3
  go_quiet (fail)
  go_wp2_with fail
  go_ret
  exact ⟨rfl, K0.out.drewN _⟩
/-- A home in a block of its own. -/
def Hm (w : World) (R : Nat) (id : Int) (kb ko : Nat) (dep : Int) : Prop := w.heap[R]? = some (.cells #[.int .i64 id, .pointer (some ⟨kb, ko, none⟩), .int .i64 dep] 84 (0, 0))
theorem Hm.lt {w : World} {R : Nat} {id : Int} {kb ko : Nat} {dep : Int} (h : Hm w R id kb ko dep) : R < w.heap.size := lt_of_block h
theorem Hm.c0 {w : World} {R : Nat} {id : Int} {kb ko : Nat} {dep : Int} (h : Hm w R id kb ko dep) : w.cell? ⟨R, 0, none⟩ = some (.int .i64 id) := by simp [World.cell?, show w.heap[R]? = _ from h]
theorem Hm.c1 {w : World} {R : Nat} {id : Int} {kb ko : Nat} {dep : Int} (h : Hm w R id kb ko dep) : w.cell? ⟨R, 1, none⟩ = some (.pointer (some ⟨kb, ko, none⟩)) := by simp [World.cell?, show w.heap[R]? = _ from h]
theorem Hm.c2 {w : World} {R : Nat} {id : Int} {kb ko : Nat} {dep : Int} (h : Hm w R id kb ko dep) : w.cell? ⟨R, 2, none⟩ = some (.int .i64 dep) := by simp [World.cell?, show w.heap[R]? = _ from h]
theorem Hm.fr {w : World} {R j : Nat} {id : Int} {kb ko : Nat} {dep : Int} (h : Hm w R id kb ko dep) : w.frozen? ⟨R, j, none⟩ = false := by simp [World.frozen?, show w.heap[R]? = _ from h]
theorem Hm.new (w : World) (id : Int) (kb ko : Nat) (dep : Int) : Hm (w.alloc (.cells #[.int .i64 id, .pointer (some ⟨kb, ko, none⟩), .int .i64 dep] 84)) w.heap.size id kb ko dep := heap_alloc_new _ _
theorem Hm.later {w w' : World} {R : Nat} {id : Int} {kb ko : Nat} {dep : Int} (h : Hm w R id kb ko dep) (k : Keeps none' w w') : Hm w' R id kb ko dep := (k.later R h.lt).trans h
theorem Hm.set3 {w : World} {R : Nat} {x y z : Value} (h : w.heap[R]? = some (.cells #[x, y, z] 84 (0, 0))) (id : Int) (kb ko : Nat) (dep : Int) :
    Hm (((w.setCell ⟨R, 0, none⟩ (.int .i64 id)).setCell ⟨R, 1, none⟩ (.pointer (some ⟨kb, ko, none⟩))).setCell ⟨R, 2, none⟩ (.int .i64 dep)) R id kb ko dep := by
  have h0 := block_set (i := 0) h (.int .i64 id)
  have h1 := block_set (i := 1) h0 (.pointer (some ⟨kb, ko, none⟩))
  have h2 := block_set (i := 2) h1 (.int .i64 dep)
  exact h2
set_option maxRecDepth 100000 in
set_option maxHeartbeats 800000 in
theorem within_any (id : Int) (kb ko dep : Nat) (h : Hd) (ls : List Loc) (i : Nat) (l : Loc) (b o : Nat) (w : World) (H : Home w kb ko h ls) (hx : h.a = some ⟨b, o, none⟩) (hl : ls[i]? = some l) (hd : dep ≤ 1099511627776) :
    Calls Tryz.prog 95 #[.agg #[.int .i64 id, .pointer (some ⟨kb, ko, none⟩), .int .i64 (dep : Int), .int .i64 (i : Int)]] w fun e w' => e = .returned (.agg #[.int .i64 l.dat.id, .pointer (some ⟨b, o + i * 19 + 18, none⟩), .int .i64 ((dep + 1 : Nat) : Int)]) ∧ Keeps none' w w' := by
  have S0 := Lib.hid ((Sp.new w id kb ko dep i).later ((Keeps.refl none' _).alloc (.cells #[.int .i64 0, .pointer none, .int .i64 0] 84)))
  have R0 := Lib.hid (heap_alloc_new (w.alloc (.cells #[.int .i64 id, .pointer (some ⟨kb, ko, none⟩), .int .i64 (dep : Int), .int .i64 (i : Int)] 86)) (.cells #[.int .i64 0, .pointer none, .int .i64 0] 84))
  have K0 := Lib.hid (((Keeps.refl none' w).alloc (.cells #[.int .i64 id, .pointer (some ⟨kb, ko, none⟩), .int .i64 (dep : Int), .int .i64 (i : Int)] 86)).alloc (.cells #[.int .i64 0, .pointer none, .int .i64 0] 84))
  have hs : (w.alloc (.cells #[.int .i64 id, .pointer (some ⟨kb, ko, none⟩), .int .i64 (dep : Int), .int .i64 (i : Int)] 86)).heap.size = w.heap.size + 1 := by simp
  rw [hs] at R0
  have LA := Lib.hid (fun w' (k : Keeps none' w w') => layer_any id kb ko dep h ls i l b o w' (H.later k) hx hl)
  have hn : 0 < ls.length := by have := (List.getElem?_eq_some_iff.1 hl).1; omega
  obtain ⟨b', o', e, hc⟩ := H.lies hn
  rw [hx] at e
  cases e
  have HC := Lib.hid (show w.cell? ⟨b, o + i * 19, none⟩ = some (.int .i64 l.dat.id) from hc i l hl 0 _ (by cases l; rfl))
  clear hs hc H hx hl hn
  go_enter Tryz.func95, Tryz.ntmps95
  go_upto_region 1 with (fail)
  generalize (w.alloc (.cells #[.int .i64 id, .pointer (some ⟨kb, ko, none⟩), .int .i64 (dep : Int), .int .i64 (i : Int)] 86)).alloc (.cells #[.int .i64 0, .pointer none, .int .i64 0] 84) = w1 at *
  obtain ⟨R, hR⟩ : ∃ R, R = w.heap.size + 1 := ⟨_, rfl⟩
  have RB := Lib.hid (show w.heap.size ≤ R from by omega)
  rw [← hR] at R0
  rw [← hR]
  clear hR
  obtain ⟨S, hS⟩ : ∃ S, S = w.heap.size := ⟨_, rfl⟩
  rw [← hS] at S0
  rw [← hS]
  clear hS
  have s0 := S0.out.c0
  have s1 := S0.out.c1
  have s2 := S0.out.c2
  have s3 := S0.out.c3
  go_wp2_with fail
  refine (LA.out _ K0.out).mono ?_
  rintro e w2 ⟨rfl, hk⟩
  have K2 := Lib.hid (K0.out.next hk)
  have S2 := Lib.hid (S0.out.later hk)
  have R2 := Lib.hid ((hk.later R (lt_of_block R0.out)).trans R0.out)
  clear s0 s1 s2 s3 S0 K0 R0 hk LA
  go_upto_region 2 with (fail)
  have e0 := K2.out.cell HC.out
  have s2 := S2.out.c2
  have wd : IntKind.i64.wrap ((dep : Int) + 1) = ((dep + 1 : Nat) : Int) := by rw [wrap_i64 _ (by omega) (by omega)]; push_cast; rfl
  have r0 : w2.cell? ⟨R, 0, none⟩ = some (.int .i64 0) := by simp [World.cell?, R2.out]
  have r1 : w2.cell? ⟨R, 1, none⟩ = some (.pointer none) := by simp [World.cell?, R2.out]
  have r2 : w2.cell? ⟨R, 2, none⟩ = some (.int .i64 0) := by simp [World.cell?, R2.out]
  have f0 : ∀ j, w2.frozen? ⟨R, j, none⟩ = false := fun j => by simp [World.frozen?, R2.out]
  have f1 := f0 0
  have f2 := f0 1
  have f3 := f0 2
  go_still_tail 12, (by kernel_rfl)
  repeat still_step
  try refine wpStill_nil ?_
  try (change wpList _ _ _ _ _ w2.drew)
  go_wp2_with fail
  refine bodyPost_ret (results_cell_row rfl _ _ R 84 #[.int .i64 l.dat.id, .pointer (some ⟨b, o + i * 19 + 18, none⟩), .int .i64 ((dep + 1 : Nat) : Int)] (0, 0) _ rfl (Hm.set3 (w := w2.drew) R2.out _ _ _ _) Tryz.underlying84 rfl (by kernel_rfl)) rfl ?_
  exact ⟨rfl, (((K2.out.drew).setCell (fun e => by have e' : R < w.heap.size := e; have := RB.out; omega) _).setCell (fun e => by have e' : R < w.heap.size := e; have := RB.out; omega) _).setCell (fun e => by have e' : R < w.heap.size := e; have := RB.out; omega) _⟩
end Go.Proofs.YtfcpbpfemmdklaaGreat.Tr

/- The iterator over all layers: tell. (printed by genTF.py) -/
namespace Go.Proofs.YtfcpbpfemmdklaaGreat.Tr
open Go.RowKit Go.Shelf
attribute [local go_sem] Oper.semAt_some
set_option linter.unusedSimpArgs false
set_option linter.unusedVariables false

/-- What a round that goes on keeps: cells below n₀, and from n₁ on (but for rows of numbers there, which a round may own). -/
structure KpS (n₀ n₁ : Nat) (W W' : World) : Prop where
  os : W'.os = W.os
  tape : W'.tape = W.tape
  output : W'.output = W.output
  size : W.heap.size ≤ W'.heap.size
  block : ∀ b c t f, W.heap[b]? = some (.cells c t f) → (b < n₀ ∨ (n₁ ≤ b ∧ t ≠ 3)) → W'.heap[b]? = W.heap[b]?
theorem KpS.refl (n₀ n₁ : Nat) (W : World) : KpS n₀ n₁ W W := ⟨rfl, rfl, rfl, Nat.le_refl _, fun _ _ _ _ _ _ => rfl⟩
theorem KpS.trans {n₀ n₁ : Nat} {A B C : World} (h : KpS n₀ n₁ A B) (k : KpS n₀ n₁ B C) : KpS n₀ n₁ A C :=
  ⟨k.os.trans h.os, k.tape.trans h.tape, k.output.trans h.output, Nat.le_trans h.size k.size, fun b c t f e hb => (k.block b c t f ((h.block b c t f e hb).trans e) hb).trans (h.block b c t f e hb)⟩
theorem KpS.keeps {n₀ n₁ : Nat} {W W' : World} (h : Keeps none' W W') : KpS n₀ n₁ W W' := ⟨h.os, h.tape, h.output, h.size, fun b c t f e _ => h.later b (lt_of_block e)⟩
theorem KpS.alloc (n₀ n₁ : Nat) (W : World) (o : Obj) : KpS n₀ n₁ W (W.alloc o) := KpS.keeps ((Keeps.refl none' W).alloc o)
theorem KpS.put {n₀ n₁ : Nat} (W : World) (l : Nat) (o o' : Obj) (h : W.heap[l]? = some o) (hc : o.isCells = false) : KpS n₀ n₁ W (W.putObj l o') :=
  ⟨rfl, rfl, rfl, by simp [World.putObj], fun b c t f e _ => World.putObj_heap_other (fun e2 => by subst e2; rw [h] at e; cases e; cases hc)⟩
theorem KpS.cell {n₀ n₁ : Nat} {W W' : World} (h : KpS n₀ n₁ W W') {b o : Nat} {v : Value} (hc : W.cell? ⟨b, o, none⟩ = some v) (hb : b < n₀) : W'.cell? ⟨b, o, none⟩ = some v := by
  have hx : ∃ c t f, W.heap[b]? = some (.cells c t f) := by
    unfold World.cell? at hc
    simp only at hc
    split at hc
    · rename_i c t f e; exact ⟨c, t, f, e⟩
    · cases hc
  obtain ⟨c, t, f, e⟩ := hx
  exact (World.cell?_of_block (w := W) (w' := W') (h.block b c t f e (.inl hb))).trans hc
/-- A home that lies below n₀. -/
structure HomeN (n₀ : Nat) (w : World) (kb ko : Nat) (h : Hd) (ls : List Loc) : Prop where
  home : Home w kb ko h ls
  kb : kb < n₀
  arr : ∀ x, h.a = some x → x.block < n₀
  low : ∀ b ∈ blks ls, b < n₀
theorem Cells.kp {n₀ n₁ k : Nat} {w w' : World} {h : Hd} {vs : List Value} (c : Cells k w h vs) (kk : KpS n₀ n₁ w w') (hX : ∀ x, h.a = some x → x.block < n₀) : Cells k w' h vs := by
  refine ⟨c.len, c.cap, c.abs, c.one, fun x hx => ?_⟩
  obtain ⟨h1, h2, h3⟩ := c.at' x hx
  exact ⟨h1, Nat.lt_of_lt_of_le h2 kk.size, fun j u hj => kk.cell (h3 j u hj) (hX x hx)⟩
theorem HomeN.kp {n₀ n₁ : Nat} {w w' : World} {kb ko : Nat} {h : Hd} {ls : List Loc} (H : HomeN n₀ w kb ko h ls) (k : KpS n₀ n₁ w w') : HomeN n₀ w' kb ko h ls :=
  ⟨⟨k.cell H.home.ptr H.kb, ⟨H.home.row.1.kp k H.arr, H.home.row.2⟩, All.imp H.home.rep fun _ _ _ _ hm o => ⟨o.1.kp k (fun x hx => H.low _ (mem_blks hm hx)), o.2⟩⟩, H.kb, H.arr, H.low⟩
theorem mem_hds_at : ∀ {ls : List Loc} {i : Nat} {l : Loc}, ls[i]? = some l → (l.kh ∈ hds ls) ∧ ∀ h ∈ hds l.kids, h ∈ hds ls
  | .mk d p m q k kids :: ls, 0, l, e => by
    cases e
    rw [hds]
    exact ⟨by simp [Loc.kh], fun h hm => by simp only [Loc.kids] at hm; simp [hm]⟩
  | .mk d p m q k kids :: ls, i + 1, l, e => by
    obtain ⟨h1, h2⟩ := mem_hds_at (ls := ls) (i := i) (l := l) e
    rw [hds]
    exact ⟨by simp [h1], fun h hm => by simp [h2 h hm]⟩
theorem HomeN.kids {n₀ : Nat} {w : World} {kb ko : Nat} {h : Hd} {ls : List Loc} (H : HomeN n₀ w kb ko h ls) {b o : Nat} (hx : h.a = some ⟨b, o, none⟩) {i : Nat} {l : Loc} (hl : ls[i]? = some l) : HomeN n₀ w b (o + i * 19 + 18) l.kh l.kids := by
  obtain ⟨m1, m2⟩ := mem_hds_at hl
  refine ⟨H.home.kids hx hl, H.arr _ hx, fun x hx2 => H.low _ (mem_blks m1 hx2), fun b hb => H.low b ?_⟩
  unfold blks at hb ⊢
  obtain ⟨hd, hm, hb⟩ := List.mem_flatMap.1 hb
  exact List.mem_flatMap.2 ⟨hd, m2 hd hm, hb⟩
/-- A spot: the home, the place in it, the layer, where it lies. -/
structure Spt where
  hid : Int
  kb : Nat
  ko : Nat
  dep : Nat
  i : Nat
  l : Loc
  b : Nat
  o : Nat
abbrev encS (x : Spt) : Array Value := #[.agg #[.int .i64 x.hid, .pointer (some ⟨x.kb, x.ko, none⟩), .int .i64 (x.dep : Int), .int .i64 (x.i : Int)]]
def Hd.b (h : Hd) : Nat := match h.a with
  | none => 0
  | some x => x.block
def Hd.o (h : Hd) : Nat := match h.a with
  | none => 0
  | some x => x.off
/-- All spots, each ahead of the ones within it. -/
def sps (hid : Int) (kb ko dep b o : Nat) : Nat → List Loc → List Spt
  | _, [] => []
  | i, .mk d p m q k kids :: ls => ⟨hid, kb, ko, dep, i, .mk d p m q k kids, b, o + i * 19⟩ :: (sps d.id b (o + i * 19 + 18) (dep + 1) k.b k.o 0 kids ++ sps hid kb ko dep b o (i + 1) ls)
/-- How many layers there are. -/
def cnt : List Loc → Nat
  | [] => 0
  | .mk d p m q k kids :: ls => cnt kids + cnt ls + 1
theorem sps_length (hid : Int) (kb ko dep b o : Nat) : ∀ (i : Nat) (ls : List Loc), (sps hid kb ko dep b o i ls).length = cnt ls
  | i, [] => by rw [sps, cnt]; rfl
  | i, .mk d p m q k kids :: ls => by
    rw [sps, cnt, List.length_cons, List.length_append, sps_length d.id b (o + i * 19 + 18) (dep + 1) k.b k.o 0 kids, sps_length hid kb ko dep b o (i + 1) ls]
theorem sps_append (hid : Int) (kb ko dep b o : Nat) : ∀ (xs ys : List Loc) (i : Nat), sps hid kb ko dep b o i (xs ++ ys) = sps hid kb ko dep b o i xs ++ sps hid kb ko dep b o (i + xs.length) ys
  | [], ys, i => by rw [sps]; rfl
  | .mk d p m q k kids :: xs, ys, i => by
    rw [List.cons_append, sps, sps, sps_append hid kb ko dep b o xs ys (i + 1), List.length_cons, show i + 1 + xs.length = i + (xs.length + 1) by omega]
    simp [List.append_assoc]
theorem sps_more (hid : Int) (kb ko dep b o : Nat) {ls : List Loc} {j : Nat} {l : Loc} (hl : ls[j]? = some l) :
    sps hid kb ko dep b o 0 (ls.take (j + 1)) = sps hid kb ko dep b o 0 (ls.take j) ++ (⟨hid, kb, ko, dep, j, l, b, o + j * 19⟩ :: sps l.dat.id b (o + j * 19 + 18) (dep + 1) l.kh.b l.kh.o 0 l.kids) := by
  have hj := (List.getElem?_eq_some_iff.1 hl).1
  rw [take_more hl, sps_append, List.length_take, show 0 + min j ls.length = j by omega]
  cases l
  rw [sps, sps, List.append_nil]
  rfl
theorem cnt_append : ∀ (xs ys : List Loc), cnt (xs ++ ys) = cnt xs + cnt ys
  | [], ys => by rw [cnt]; simp
  | .mk d p m q k kids :: xs, ys => by rw [List.cons_append, cnt, cnt, cnt_append xs ys]; omega
theorem cnt_at {ls : List Loc} {j : Nat} {l : Loc} (hl : ls[j]? = some l) : cnt (ls.take j) + cnt l.kids + 1 + cnt (ls.drop (j + 1)) = cnt ls := by
  have hj := (List.getElem?_eq_some_iff.1 hl).1
  have hg := (List.getElem?_eq_some_iff.1 hl).2
  have e : ls = ls.take j ++ l :: ls.drop (j + 1) := by rw [← hg, ← List.drop_eq_getElem_cons hj, List.take_append_drop]
  have e2 : cnt ls = cnt (ls.take j ++ l :: ls.drop (j + 1)) := by rw [← e]
  rw [e2, cnt_append]
  cases l
  rw [cnt]
  simp only [Loc.kids]
  omega
theorem Keeps.grownBy {w w' : World} (h : Keeps none' w w') : w.grownBy w' none := ⟨h.os, h.tape, h.output, h.size, fun i hi _ => h.later i hi⟩
/-- A spot that is one, in a world. -/
def Vld (n₀ : Nat) (w0 : World) (x : Spt) : Prop := ∃ h ls off, HomeN n₀ w0 x.kb x.ko h ls ∧ ls[x.i]? = some x.l ∧ h.a = some ⟨x.b, off, none⟩ ∧ x.o = off + x.i * 19 ∧ x.dep ≤ 1099511627776
/-- What tell does, for layers. -/
def Tells (w0 : World) (l n₀ n₁ N : Nat) (J Jx : List Spt → World → Prop) (ls : List Loc) : Prop :=
  ∀ (n : Nat) (hid : Int) (kb ko dep : Nat) (h : Hd) (pre : List Spt) (W : World), HomeN n₀ w0 kb ko h ls → HomeN n₀ W kb ko h ls → J pre W → n₁ ≤ W.heap.size → dep + cnt ls ≤ 1099511627776 → pre.length + cnt ls ≤ N →
    CallsIn Fence.wide n Tryz.prog 67 #[.agg #[.int .i64 hid, .pointer (some ⟨kb, ko, none⟩), .int .i64 (dep : Int)], .func (.yield l) #[] #[]] W fun e W' =>
      (e = .returned (.bool true) ∧ J (pre ++ sps hid kb ko dep h.b h.o 0 ls) W' ∧ KpS n₀ n₁ W W') ∨ (e = .returned (.bool false) ∧ ∃ q, q <+: sps hid kb ko dep h.b h.o 0 ls ∧ Jx (pre ++ q) W')
set_option maxRecDepth 100000 in
set_option maxHeartbeats 1600000 in
theorem tells_of (w0 : World) (l n₀ n₁ N : Nat) (J Jx : List Spt → World → Prop) (hJ : ∀ s W W', J s W → Keeps none' W W' → J s W')
    (hY : ∀ m pre x W, Vld n₀ w0 x → J pre W → n₁ ≤ W.heap.size → pre.length < N → YieldAt Fence.wide m Tryz.prog l (encS x) W fun e W' =>
      (e = .returned (.bool true) ∧ J (pre ++ [x]) W' ∧ KpS n₀ n₁ W W') ∨ (e = .returned (.bool false) ∧ Jx (pre ++ [x]) W'))
    (ls : List Loc) (IH : ∀ x ∈ ls, Tells w0 l n₀ n₁ N J Jx x.kids) : Tells w0 l n₀ n₁ N J Jx ls := by
  intro n hid kb ko dep h pre W h00 hH hJ0 hn1 hdep hlen
  have H00 := Lib.hid h00
  have HH := Lib.hid hH
  have HJ := Lib.hid hJ
  have HY := Lib.hid hY
  have HI := Lib.hid IH
  have J0 := Lib.hid (hJ _ _ _ hJ0 ((Keeps.refl none' W).alloc (.cells #[.int .i64 hid, .pointer (some ⟨kb, ko, none⟩), .int .i64 (dep : Int)] 84)))
  have HB := Lib.hid (And.intro hdep (And.intro hlen hn1))
  have B0 := Lib.hid (Hm.new W hid kb ko dep)
  have K0 := Lib.hid ((Keeps.refl none' W).alloc (.cells #[.int .i64 hid, .pointer (some ⟨kb, ko, none⟩), .int .i64 (dep : Int)] 84))
  have H1 := Lib.hid (hH.kp (n₁ := n₁) (KpS.keeps K0.out))
  have b1 := B0.out.c1
  have hp := H1.out.home.ptr
  have HN := Lib.hid (And.intro hH.home.len hH.home.row.2)
  obtain ⟨ha, n', c'⟩ := h
  clear h00 hH hJ hY IH hJ0 hdep hlen hn1
  refine callsIn_of_wp Tryz.func67 rfl trivial ?_ rfl
  simp only [Tryz.ntmps67, List.size_toArray, List.length_cons, List.length_nil, Nat.reduceAdd, Nat.reduceSub, Array.replicate_succ, Array.replicate_zero, List.push_toArray, List.append_toArray, List.nil_append, List.cons_append]
  gi_wp2
  obtain ⟨S, hS⟩ : ∃ S, S = W.heap.size := ⟨_, rfl⟩
  have SZ := Lib.hid hS
  rw [← hS] at B0
  rw [← hS]
  generalize W.alloc (.cells #[.int .i64 hid, .pointer (some ⟨kb, ko, none⟩), .int .i64 (dep : Int)] 84) = W1 at *
  clear hS b1 hp
  gi_loopw [12] (fun cnt_ wr => ∃ j : Nat, j ≤ n' ∧ cnt_ = .int .i64 j ∧ J (pre ++ sps hid kb ko dep (Hd.b ⟨ha, n', c'⟩) (Hd.o ⟨ha, n', c'⟩) 0 (ls.take j)) wr ∧ HomeN n₀ wr kb ko ⟨ha, n', c'⟩ ls ∧ Hm wr S hid kb ko dep ∧ KpS n₀ n₁ W wr) (fun cnt_ _ => n' - (intOf cnt_).toNat)
  case atStart => exact ⟨0, Nat.zero_le _, rfl, by rw [List.take_zero, sps, List.append_nil]; exact J0.out, H1.out, B0.out, KpS.keeps K0.out⟩
  case round =>
    clear J0 B0 K0 H1 HH
    obtain ⟨j, hj, rfl, r1, r2, r3, r4⟩ := hrel
    have RJ := Lib.hid r1
    have RH := Lib.hid r2
    have RB := Lib.hid r3
    have RK := Lib.hid r4
    clear r1 r2 r3 r4
    have hnl : n' = ls.length := HN.out.1
    have hn9 : n' ≤ 536870912 := HN.out.2
    by_cases hlt : j < n'
    · have hjj : (j : Int) < n' := by omega
      obtain ⟨x, hx⟩ : ∃ x, ls[j]? = some x := ⟨_, List.getElem?_eq_getElem (by omega)⟩
      have HX := Lib.hid hx
      obtain ⟨b, o, hab, -⟩ := RH.out.home.lies (by omega)
      have hab2 : ha = some ⟨b, o, none⟩ := hab
      subst hab2
      clear hab
      clear hx hnl
      have b0 := RB.out.c0
      have b1 := RB.out.c1
      have b2 := RB.out.c2
      obtain ⟨P, hP⟩ : ∃ P, P = sps hid kb ko dep (Hd.b ⟨some ⟨b, o, none⟩, n', c'⟩) (Hd.o ⟨some ⟨b, o, none⟩, n', c'⟩) 0 (ls.take j) := ⟨_, rfl⟩
      obtain ⟨X, hX⟩ : ∃ X : Spt, X = ⟨hid, kb, ko, dep, j, x, b, o + j * 19⟩ := ⟨_, rfl⟩
      have MORE := Lib.hid (show sps hid kb ko dep (Hd.b ⟨some ⟨b, o, none⟩, n', c'⟩) (Hd.o ⟨some ⟨b, o, none⟩, n', c'⟩) 0 (ls.take (j + 1)) = P ++ (X :: sps x.dat.id b (o + j * 19 + 18) (dep + 1) x.kh.b x.kh.o 0 x.kids) from by rw [hP, hX]; exact sps_more hid kb ko dep b o HX.out)
      have PRE := Lib.hid (show sps hid kb ko dep (Hd.b ⟨some ⟨b, o, none⟩, n', c'⟩) (Hd.o ⟨some ⟨b, o, none⟩, n', c'⟩) 0 (ls.take (j + 1)) <+: sps hid kb ko dep (Hd.b ⟨some ⟨b, o, none⟩, n', c'⟩) (Hd.o ⟨some ⟨b, o, none⟩, n', c'⟩) 0 ls from by
        refine ⟨sps hid kb ko dep (Hd.b ⟨some ⟨b, o, none⟩, n', c'⟩) (Hd.o ⟨some ⟨b, o, none⟩, n', c'⟩) (0 + (ls.take (j + 1)).length) (ls.drop (j + 1)), ?_⟩
        rw [← sps_append, List.take_append_drop])
      have CNT := Lib.hid (cnt_at HX.out)
      have LEN := Lib.hid (show P.length = cnt (ls.take j) from by rw [hP, sps_length])
      rw [← hP] at RJ
      clear hP
      have K2 := Lib.hid ((Keeps.refl none' wr).alloc (.cells #[.int .i64 hid, .pointer (some ⟨kb, ko, none⟩), .int .i64 (dep : Int), .int .i64 (j : Int)] 86))
      have J2 := Lib.hid (HJ.out _ _ _ RJ.out K2.out)
      have T2 := Lib.hid (Sp.new wr hid kb ko dep j)
      have N2 := Lib.hid (show n₁ ≤ wr.heap.size from by have := HB.out.2.2; have := RK.out.size; omega)
      have N3 := Lib.hid (show n₁ ≤ (wr.alloc (.cells #[.int .i64 hid, .pointer (some ⟨kb, ko, none⟩), .int .i64 (dep : Int), .int .i64 (j : Int)] 86)).heap.size from by have := N2.out; have := K2.out.size; omega)
      have H2 := Lib.hid (RH.out.kp (n₁ := n₁) (KpS.keeps K2.out))
      have B2 := Lib.hid (RB.out.later K2.out)
      have KK2 := Lib.hid (RK.out.trans (KpS.keeps K2.out))
      have SB := Lib.hid (show n₁ ≤ S from by rw [SZ.out]; exact HB.out.2.2)
      obtain ⟨fn, tmps, assign, body, hy, hR⟩ := HY.out (n - 1) (pre ++ P) X (wr.alloc (.cells #[.int .i64 hid, .pointer (some ⟨kb, ko, none⟩), .int .i64 (dep : Int), .int .i64 (j : Int)] 86)) (by rw [hX]; exact ⟨_, ls, o, H00.out, HX.out, rfl, rfl, by have := HB.out.1; show dep ≤ _; omega⟩) J2.out N3.out (by rw [List.length_append]; have := LEN.out; have := CNT.out; have := HB.out.2.1; omega)
      rw [hX] at hy
      dsimp only [encS] at hy
      clear hX RJ RH RB
      obtain ⟨T, hT⟩ : ∃ T, T = wr.heap.size := ⟨_, rfl⟩
      have ET := Lib.hid hT
      gi_wp2
      rw [← hT]
      rw [← hT] at T2
      clear hT b0 b1 b2
      generalize wr.alloc (.cells #[.int .i64 hid, .pointer (some ⟨kb, ko, none⟩), .int .i64 (dep : Int), .int .i64 (j : Int)] 86) = w2 at *
      refine ⟨fun h => (by cases h), hR.mono ?_⟩
      rintro e w3 (⟨rfl, hJ3, hk3⟩ | ⟨rfl, hJx3⟩)
      · have T3 := Lib.hid (show Sp w3 T hid kb ko dep j from (hk3.block T _ _ _ T2.out (.inr ⟨by rw [ET.out]; exact N2.out, by decide⟩)).trans T2.out)
        have B3 := Lib.hid (show Hm w3 S hid kb ko dep from (hk3.block S _ _ _ B2.out (.inr ⟨SB.out, by decide⟩)).trans B2.out)
        have H3 := Lib.hid (H2.out.kp hk3)
        have KK3 := Lib.hid (KK2.out.trans hk3)
        have J3 := Lib.hid hJ3
        have s0 := T3.out.c0
        have s1 := T3.out.c1
        have s2 := T3.out.c2
        have s3 := T3.out.c3
        have N5 := Lib.hid (show n₁ ≤ w3.heap.size from Nat.le_trans N3.out hk3.size)
        have WI := Lib.hid (within_any hid kb ko dep ⟨some ⟨b, o, none⟩, n', c'⟩ ls j x b o w3 H3.out.home rfl HX.out (by have := HB.out.1; omega))
        clear hJ3 hk3 hR
        gi_wp2_with (first
          | ((refine ⟨trivial, fun h => (by cases h), ?_⟩); gi_at_call 95; refine (callsIn_wide.2 WI.out).mono ?_; clear WI; rintro e w4 ⟨rfl, hk4⟩; have J4 := Lib.hid (HJ.out _ _ _ J3.out hk4); have H4 := Lib.hid (H3.out.kp (n₁ := n₁) (KpS.keeps hk4)); have B4 := Lib.hid (B3.out.later hk4); have KK4 := Lib.hid (KK3.out.trans (KpS.keeps hk4)); have N6 := Lib.hid (show n₁ ≤ w4.heap.size from Nat.le_trans N5.out hk4.size); clear hk4; clear J3 H3 KK3)
          | ((refine ⟨trivial, fun h => (by cases h), ?_⟩); gi_at_call 67; refine (HI.out x (List.mem_of_getElem? HX.out) (n - 1) x.dat.id b (o + j * 19 + 18) (dep + 1) x.kh (pre ++ P ++ [X]) w4 (H00.out.kids rfl HX.out) (H4.out.kids rfl HX.out) J4.out N6.out (by have := HB.out.1; have := CNT.out; omega) (by rw [List.length_append, List.length_append, List.length_singleton]; have := LEN.out; have := CNT.out; have := HB.out.2.1; omega)).mono ?_; rintro e w5 (⟨rfl, hJ5, hk5⟩ | ⟨rfl, q, hq, hx5⟩)))
        · have J6 := Lib.hid (show J (pre ++ sps hid kb ko dep (Hd.b ⟨some ⟨b, o, none⟩, n', c'⟩) (Hd.o ⟨some ⟨b, o, none⟩, n', c'⟩) 0 (ls.take (j + 1))) w5 from by
            rw [MORE.out]
            simpa [List.append_assoc] using hJ5)
          have H6 := Lib.hid (H4.out.kp hk5)
          have B6 := Lib.hid (show Hm w5 S hid kb ko dep from (hk5.block S _ _ _ B4.out (.inr ⟨SB.out, by decide⟩)).trans B4.out)
          have KK6 := Lib.hid (KK4.out.trans hk5)
          clear hJ5 hk5
          go_roundw
          case rel => exact ⟨j + 1, by omega, by go_num, J6.out, H6.out, B6.out, KK6.out⟩
          case measure => simp [intOf]; omega
        · go_ret
          refine .inr ⟨rfl, P ++ (X :: q), ?_, by simpa [List.append_assoc] using hx5⟩
          obtain ⟨r, hr⟩ := hq
          refine List.IsPrefix.trans ⟨r, ?_⟩ PRE.out
          rw [MORE.out, ← hr]
          simp [List.append_assoc]
      · gi_wp2
        refine ⟨trivial, ?_⟩
        gi_wp2
        refine ⟨trivial, ?_⟩
        gi_wp2
        go_ret
        refine .inr ⟨rfl, P ++ [X], ?_, by simpa [List.append_assoc] using hJx3⟩
        refine List.IsPrefix.trans ⟨sps x.dat.id b (o + j * 19 + 18) (dep + 1) x.kh.b x.kh.o 0 x.kids, ?_⟩ PRE.out
        rw [MORE.out]
        simp [List.append_assoc]
    · obtain rfl : j = n' := by omega
      have t8 : decide (j < j) = false := by simp
      have htk : ls.take j = ls := List.take_of_length_le (by omega)
      rw [htk] at RJ
      clear htk hnl
      gi_wp2
      go_ret
      exact .inl ⟨rfl, RJ.out, RK.out⟩
theorem tells_fuel (w0 : World) (l n₀ n₁ N : Nat) (J Jx : List Spt → World → Prop) (hJ : ∀ s W W', J s W → Keeps none' W W' → J s W')
    (hY : ∀ m pre x W, Vld n₀ w0 x → J pre W → n₁ ≤ W.heap.size → pre.length < N → YieldAt Fence.wide m Tryz.prog l (encS x) W fun e W' =>
      (e = .returned (.bool true) ∧ J (pre ++ [x]) W' ∧ KpS n₀ n₁ W W') ∨ (e = .returned (.bool false) ∧ Jx (pre ++ [x]) W')) : ∀ (n : Nat) (ls : List Loc), SizeOf.sizeOf ls ≤ n → Tells w0 l n₀ n₁ N J Jx ls
  | 0, ls, h => by cases ls <;> simp at h
  | n + 1, ls, h => tells_of w0 l n₀ n₁ N J Jx hJ hY ls (fun x hx => by
    cases x with
    | mk d p m q k kids =>
      have hs := List.sizeOf_lt_of_mem hx
      simp only [Loc.mk.sizeOf_spec] at hs
      exact tells_fuel w0 l n₀ n₁ N J Jx hJ hY n kids (by omega))
/-- tell hands over all layers, each ahead of the ones within it, until one is enough. -/
theorem tells_any (w0 : World) (l n₀ n₁ N : Nat) (J Jx : List Spt → World → Prop) (hJ : ∀ s W W', J s W → Keeps none' W W' → J s W')
    (hY : ∀ m pre x W, Vld n₀ w0 x → J pre W → n₁ ≤ W.heap.size → pre.length < N → YieldAt Fence.wide m Tryz.prog l (encS x) W fun e W' =>
      (e = .returned (.bool true) ∧ J (pre ++ [x]) W' ∧ KpS n₀ n₁ W W') ∨ (e = .returned (.bool false) ∧ Jx (pre ++ [x]) W')) (ls : List Loc) : Tells w0 l n₀ n₁ N J Jx ls := tells_fuel w0 l n₀ n₁ N J Jx hJ hY _ ls (Nat.le_refl _)
end Go.Proofs.YtfcpbpfemmdklaaGreat.Tr

/- The iterator value; how many layers there are. (printed by genTG.py) -/
namespace Go.Proofs.YtfcpbpfemmdklaaGreat.Tr
open Go.RowKit Go.Shelf
attribute [local go_sem] Oper.semAt_some
set_option linter.unusedSimpArgs false
set_option linter.unusedVariables false

theorem round_any {F : Fence} (hd : F.depth = none) {m m' : Nat} {P : Program} {l : Nat} {f : FuncId} {tmps : Array Value} {assign body : Code} {w : World} {R : Ending → World → Prop}
    (h : RoundIn F m P l f tmps assign body w R) : RoundIn F m' P l f tmps assign body w R := ⟨h.1, fun c cs _ => h.2 c cs (fun d e => by rw [hd] at e; cases e)⟩
theorem yield_any {F : Fence} (hd : F.depth = none) {m : Nat} (m' : Nat) {P : Program} {l : Nat} {args : Array Value} {W : World} {R : Ending → World → Prop} (h : YieldAt F m P l args W R) : YieldAt F m' P l args W R := by
  obtain ⟨fn, tmps, assign, body, hy, hR⟩ := h
  exact ⟨fn, tmps, assign, body, hy, round_any hd hR⟩
theorem spots_any (hid : Int) (kb ko dep : Nat) (w : World) : Calls Tryz.prog 42 #[.agg #[.int .i64 hid, .pointer (some ⟨kb, ko, none⟩), .int .i64 (dep : Int)]] w fun e w' => e = .returned (.func (.func 66) #[] #[.pointer (some ⟨w.heap.size, 0, none⟩)]) ∧ w' = w.alloc (.cells #[.int .i64 hid, .pointer (some ⟨kb, ko, none⟩), .int .i64 (dep : Int)] 84) := by
  go_enter Tryz.func42, Tryz.ntmps42
  go_wp2
  go_ret
  exact ⟨rfl, rfl⟩
/-- A home lies below the size of its world. -/
theorem Home.low {w : World} {kb ko : Nat} {h : Hd} {ls : List Loc} (H : Home w kb ko h ls) : HomeN w.heap.size w kb ko h ls := by
  refine ⟨H, World.block_lt_of_cell? w _ H.ptr, fun x hx => (H.row.1.at' x hx).2.1, fun b hb => ?_⟩
  unfold blks at hb
  obtain ⟨hd, hm, hb⟩ := List.mem_flatMap.1 hb
  obtain ⟨e, k, vs, o⟩ := All.mem H.rep hd hm
  obtain ⟨x, hx, rfl⟩ := Hd.blk_mem hb
  exact (o.1.at' x hx).2.1
theorem keeps_of_below {w w' : World} (h : Below w.heap.size w w') : Keeps none' w w' := ⟨h.os, h.tape, h.output, h.size, fun k hk _ => h.block k hk⟩
theorem HomeN.later {n₀ : Nat} {w w' : World} {kb ko : Nat} {h : Hd} {ls : List Loc} (H : HomeN n₀ w kb ko h ls) (k : Keeps none' w w') : HomeN n₀ w' kb ko h ls := ⟨H.home.later k, H.kb, H.arr, H.low⟩
/-- Spots that are ones. -/
abbrev VS (n₀ : Nat) (w0 : World) := { x : Spt // Vld n₀ w0 x }
abbrev encV {n₀ : Nat} {w0 : World} (x : VS n₀ w0) : Array Value := #[.agg #[.int .i64 x.1.hid, .pointer (some ⟨x.1.kb, x.1.ko, none⟩), .int .i64 (x.1.dep : Int), .int .i64 (x.1.i : Int)]]
def vals {n₀ : Nat} {w0 : World} (xs : List (VS n₀ w0)) : List Spt := xs.map (·.1)
set_option maxRecDepth 100000 in
set_option maxHeartbeats 1600000 in
/-- The iterator over all layers within a home. -/
theorem spots_stops (n₀ : Nat) (hid : Int) (kb ko dep : Nat) (h : Hd) (ls : List Loc) (B : Nat) (w : World) (hB : Hm w B hid kb ko dep) (H : HomeN n₀ w kb ko h ls) (hd : dep + cnt ls ≤ 1099511627776) :
    SeqStopsK Fence.wide 1 Tryz.prog 66 #[.pointer (some ⟨B, 0, none⟩)] (encV (n₀ := n₀) (w0 := w)) (KpS n₀ w.heap.size) (fun xs => vals xs = sps hid kb ko dep h.b h.o 0 ls) (fun pre => vals pre <+: sps hid kb ko dep h.b h.o 0 ls) (cnt ls) w := by
  intro l J Jx W hW hJ hJx hY h0
  have T := Lib.hid (tells_any w l n₀ w.heap.size (cnt ls) (fun pre W1 => ∃ q : List (VS n₀ w), vals q = pre ∧ J q W1) (fun pre W1 => ∃ q : List (VS n₀ w), vals q = pre ∧ Jx q W1)
    (fun s W1 W2 ⟨q, e, hs⟩ k => ⟨q, e, hJ q W1 W2 none hs k.grownBy (fun r e => by cases e)⟩)
    (fun m pre x W1 hv ⟨q, e, hj⟩ _ hl => (yield_any rfl m (hY q ⟨x, hv⟩ W1 hj (by rw [← e] at hl; simpa [vals] using hl))).mono (fun e2 W2 h2 => h2.elim (fun h3 => .inl ⟨h3.1, ⟨_, by rw [← e]; simp [vals], h3.2.1⟩, h3.2.2⟩) (fun h3 => .inr ⟨h3.1, ⟨_, by rw [← e]; simp [vals], h3.2⟩⟩))) ls 0 hid kb ko dep h [] W H (H.later (keeps_of_below hW)) ⟨[], rfl, h0⟩ hW.size hd (by simp))
  have b0 := (hB.later (keeps_of_below hW)).c0
  have b1 := (hB.later (keeps_of_below hW)).c1
  have b2 := (hB.later (keeps_of_below hW)).c2
  clear hJ hJx hY h0 H hB hW
  refine callsIn_of_wp Tryz.func66 rfl trivial ?_ rfl
  simp only [Tryz.ntmps66, List.size_toArray, List.length_cons, List.length_nil, Nat.reduceAdd, Nat.reduceSub, Array.replicate_succ, Array.replicate_zero, List.push_toArray, List.append_toArray, List.nil_append, List.cons_append]
  gi_wp2_with ((refine ⟨trivial, ?_⟩); gi_at_call 67; refine T.out.mono ?_; clear T; rintro e W1 (⟨rfl, ⟨q1, hq1, hJ1⟩, _⟩ | ⟨rfl, q, hq, q2, hq2, hx⟩))
  · go_end0
    exact ⟨⟨_, rfl⟩, .inl ⟨q1, by simpa using hq1, hJ1⟩⟩
  · go_end0
    exact ⟨⟨_, rfl⟩, .inr ⟨q2, by rw [hq2]; simpa using hq, hx⟩⟩
/-- A number in a block of its own. -/
def Nb (w : World) (B : Nat) (x : Int) : Prop := w.heap[B]? = some (.cells #[.int .i64 x] 3 (0, 0))
theorem Nb.lt {w : World} {B : Nat} {x : Int} (h : Nb w B x) : B < w.heap.size := lt_of_block h
theorem Nb.c {w : World} {B : Nat} {x : Int} (h : Nb w B x) : w.cell? ⟨B, 0, none⟩ = some (.int .i64 x) := by simp [World.cell?, show w.heap[B]? = _ from h]
theorem Nb.fr {w : World} {B : Nat} {x : Int} (h : Nb w B x) : w.frozen? ⟨B, 0, none⟩ = false := by simp [World.frozen?, show w.heap[B]? = _ from h]
theorem Nb.later {w w' : World} {B : Nat} {x : Int} (h : Nb w B x) (k : Keeps none' w w') : Nb w' B x := (k.later B h.lt).trans h
theorem Nb.set {w : World} {B : Nat} {x : Int} (h : Nb w B x) (y : Int) : Nb (w.setCell ⟨B, 0, none⟩ (.int .i64 y)) B y := block_set (i := 0) h (.int .i64 y)
/-- A block of cells stands through what a loop over an iterator turns. -/
theorem block_own {W W' : World} {row : Option Nat} {B b : Nat} {c : Array Value} {t : TypeId} {f : Nat × Nat} (e : W.heap[b]? = some (.cells c t f)) (hg : W.grownBy W' row) (hr : ∀ r, row = some r → B ≤ r ∧ ∃ o : Obj, W.heap[r]? = some o ∧ o.isCells = false) : W'.heap[b]? = some (.cells c t f) :=
  (hg.block b (lt_of_block e) (fun e2 => by
    obtain ⟨-, o, ho, hc⟩ := hr b e2.symm
    rw [e] at ho
    cases ho
    simp [Obj.isCells] at hc)).trans e
theorem keeps_own {w W W' : World} {row : Option Nat} {B : Nat} (h : Keeps none' w W) (hB : w.heap.size ≤ B) (hg : W.grownBy W' row) (hr : ∀ r, row = some r → B ≤ r ∧ ∃ o : Obj, W.heap[r]? = some o ∧ o.isCells = false) : Keeps none' w W' :=
  h.grown hg (fun k hk e => by have := (hr k e).1; omega)
theorem kpS_set {n₀ n₁ : Nat} (W : World) (b i : Nat) (v : Value) (h1 : n₀ ≤ b) (h2 : b < n₁) : KpS n₀ n₁ W (W.setCell ⟨b, i, none⟩ v) :=
  ⟨rfl, rfl, rfl, by simp [World.setCell], fun b' c t f e hb => Below.heap_setCell _ _ _ _ (fun e2 => by subst e2; omega)⟩
set_option maxRecDepth 100000 in
set_option maxHeartbeats 3200000 in
/-- How many layers there are. -/
theorem count_any (hid : Int) (kb ko dep : Nat) (h : Hd) (ls : List Loc) (w : World) (H : Home w kb ko h ls) (hd : dep + cnt ls ≤ 1099511627776) :
    Calls Tryz.prog 36 #[.agg #[.int .i64 hid, .pointer (some ⟨kb, ko, none⟩), .int .i64 (dep : Int)]] w fun e w' => e = .returned (.int .i64 (cnt ls : Int)) ∧ Keeps none' w w' := by
  have H0 := Lib.hid H.low
  have K1 := Lib.hid (((Keeps.refl none' w).alloc (.cells #[.int .i64 hid, .pointer (some ⟨kb, ko, none⟩), .int .i64 (dep : Int)] 84)).alloc (.cells #[.int .i64 0] 3))
  have A1 := Lib.hid ((Hm.new w hid kb ko dep).later ((Keeps.refl none' _).alloc (.cells #[.int .i64 0] 3)))
  have N1 := Lib.hid (heap_alloc_new (w.alloc (.cells #[.int .i64 hid, .pointer (some ⟨kb, ko, none⟩), .int .i64 (dep : Int)] 84)) (.cells #[.int .i64 0] 3))
  have hs : (w.alloc (.cells #[.int .i64 hid, .pointer (some ⟨kb, ko, none⟩), .int .i64 (dep : Int)] 84)).heap.size = w.heap.size + 1 := by simp
  rw [hs] at N1
  have ZS := Lib.hid (show ((w.alloc (.cells #[.int .i64 hid, .pointer (some ⟨kb, ko, none⟩), .int .i64 (dep : Int)] 84)).alloc (.cells #[.int .i64 0] 3)).heap.size = w.heap.size + 2 from by simp)
  have HD := Lib.hid hd
  clear H hd hs
  refine (callsIn_wide (n := 2)).1 ?_
  refine callsIn_of_wp_marks Tryz.func36 rfl trivial ?_ rfl
  simp only [Tryz.ntmps36, List.size_toArray, List.length_cons, List.length_nil, Nat.reduceAdd, Nat.reduceSub, Array.replicate_succ, Array.replicate_zero, List.push_toArray, List.append_toArray, List.nil_append, List.cons_append]
  have c0 := A1.out.c0
  have c1 := A1.out.c1
  have c2 := A1.out.c2
  gi_wp2_with ((refine ⟨trivial, ?_⟩); gi_at_call 42; refine (callsIn_wide.2 (spots_any hid kb ko dep _)).mono ?_; rintro e w8 ⟨rfl, hw8⟩)
  have K8 := Lib.hid (K1.out.alloc (.cells #[.int .i64 hid, .pointer (some ⟨kb, ko, none⟩), .int .i64 (dep : Int)] 84))
  have N8 := Lib.hid (show Nb ((((w.alloc (.cells #[.int .i64 hid, .pointer (some ⟨kb, ko, none⟩), .int .i64 (dep : Int)] 84)).alloc (.cells #[.int .i64 0] 3))).alloc (.cells #[.int .i64 hid, .pointer (some ⟨kb, ko, none⟩), .int .i64 (dep : Int)] 84)) (w.heap.size + 1) 0 from (Below.heap_alloc _ _ _ (lt_of_block N1.out)).trans N1.out)
  have B8 := Lib.hid (Hm.new ((w.alloc (.cells #[.int .i64 hid, .pointer (some ⟨kb, ko, none⟩), .int .i64 (dep : Int)] 84)).alloc (.cells #[.int .i64 0] 3)) hid kb ko dep)
  rw [ZS.out] at B8
  have Z8 := Lib.hid (show ((((w.alloc (.cells #[.int .i64 hid, .pointer (some ⟨kb, ko, none⟩), .int .i64 (dep : Int)] 84)).alloc (.cells #[.int .i64 0] 3))).alloc (.cells #[.int .i64 hid, .pointer (some ⟨kb, ko, none⟩), .int .i64 (dep : Int)] 84)).heap.size = w.heap.size + 3 from by simp)
  clear K1 A1 N1 ZS c0 c1 c2
  generalize (((w.alloc (.cells #[.int .i64 hid, .pointer (some ⟨kb, ko, none⟩), .int .i64 (dep : Int)] 84)).alloc (.cells #[.int .i64 0] 3))).alloc (.cells #[.int .i64 hid, .pointer (some ⟨kb, ko, none⟩), .int .i64 (dep : Int)] 84) = w8 at *
  have H8 := Lib.hid (H0.out.later K8.out)
  refine wpIn_rangeFunc_ownG rfl (by decide) (gf := 66) (lb := #[.pointer (some ⟨w.heap.size + 2, 0, none⟩)]) rfl trivial (enters_of Tryz.func66 (by kernel_rfl) rfl) (spots_stops w.heap.size hid kb ko dep h ls (w.heap.size + 2) w8 B8.out H8.out HD.out) KpS.trans (fun W l o o' hl e1 e2 _ => KpS.put W l o o' e1 e2) (Below.refl _ _) (fun _ => rfl)
    (fun pre W => Nb W (w.heap.size + 1) (pre.length : Int) ∧ Keeps none' w W ∧ w8.heap.size ≤ W.heap.size)
    (fun _ _ _ => False)
    (fun pre W W' row hh hg hr => ⟨block_own hh.1 hg hr, keeps_own hh.2.1 (by rw [Z8.out]; omega) hg hr, Nat.le_trans hh.2.2 hg.size⟩)
    (fun _ _ _ _ _ hh _ _ => hh)
    ⟨N8.out, K8.out, Nat.le_refl _⟩
    (fun x => { tmps := #[.agg #[.int .i64 hid, .pointer (some ⟨kb, ko, none⟩), .int .i64 (dep : Int)], .pointer (some ⟨w.heap.size, 0, none⟩), .int .i64 0, .pointer (some ⟨w.heap.size + 1, 0, none⟩), .agg #[.int .i64 hid, .pointer (some ⟨kb, ko, none⟩), .int .i64 (dep : Int)], .func (.func 66) #[] #[.pointer (some ⟨w.heap.size + 1 + 1, 0, none⟩)], .agg #[.int .i64 x.1.hid, .pointer (some ⟨x.1.kb, x.1.ko, none⟩), .int .i64 (x.1.dep : Int), .int .i64 (x.1.i : Int)], undef, undef, undef], defers := [] })
    ?assign ?body ?done ?stop
  case assign =>
    intro l x W K hK
    gi_wp2
    simpa [encV] using hK
  case body =>
    rintro l pre x W ⟨hN, hk, hsz⟩ hlt
    have cN := hN.c
    have fN := hN.fr
    have hd2 := HD.out
    have hb : (pre.length : Int) < 1099511627776 := by omega
    have hb0 : (0 : Int) ≤ (pre.length : Int) := by omega
    clear hd2
    gi_wp2
    refine ⟨(KeepsOthers.setCell _ _ _).from _, kpS_set W (w.heap.size + 1) 0 _ (by omega) (by rw [Z8.out]; omega), ?_, hk.setCell (fun e => by have e' : w.heap.size + 1 < w.heap.size := e; omega) _, by simp [World.setCell]; omega⟩
    rw [List.length_append, List.length_singleton]
    exact hN.set _
  case done =>
    rintro D xs W hD hS ⟨hN, hk, hsz⟩ hK
    have hxl : xs.length = cnt ls := by rw [← sps_length hid kb ko dep h.b h.o 0 ls, ← hS]; simp [vals]
    rw [hxl] at hN
    clear hxl hS
    have cN := hN.c
    gi_wp2
    refine ⟨by simp, .inl ⟨_, _, rfl, run_takeDeferred hK, ?_⟩⟩
    refine ⟨.int .i64 (cnt ls : Int), ?_, rfl, hk.grown (grownBy_putObj' _ D (.deferred none)) (fun q hq e => by cases e; rw [Z8.out] at hD; omega)⟩
    simp [results, Tryz.f36, go_sem]
  case stop => exact fun _ _ _ _ _ _ h => h.elim
end Go.Proofs.YtfcpbpfemmdklaaGreat.Tr

/- A layer found by its number. (printed by genTH.py) -/
namespace Go.Proofs.YtfcpbpfemmdklaaGreat.Tr
open Go.RowKit Go.Shelf
attribute [local go_sem] Oper.semAt_some
set_option linter.unusedSimpArgs false
set_option linter.unusedVariables false

theorem mem_sps {hid : Int} {kb ko dep b o : Nat} {X : Spt} : ∀ {ls : List Loc} {i : Nat}, X ∈ sps hid kb ko dep b o i ls → ∃ j l, ls[j]? = some l ∧ (X = ⟨hid, kb, ko, dep, i + j, l, b, o + (i + j) * 19⟩ ∨ X ∈ sps l.dat.id b (o + (i + j) * 19 + 18) (dep + 1) l.kh.b l.kh.o 0 l.kids)
  | [], i, h => by rw [sps] at h; cases h
  | .mk d p m q k kids :: ls, i, h => by
    rw [sps] at h
    rcases List.mem_cons.1 h with h | h
    · exact ⟨0, _, rfl, .inl h⟩
    · rcases List.mem_append.1 h with h | h
      · exact ⟨0, _, rfl, .inr h⟩
      · obtain ⟨j, l, h1, h2⟩ := mem_sps (ls := ls) h
        refine ⟨j + 1, l, h1, ?_⟩
        rw [show i + 1 + j = i + (j + 1) by omega] at h2
        exact h2
theorem sps_fuel {n₀ : Nat} {w : World} : ∀ (m : Nat) (ls : List Loc), SizeOf.sizeOf ls ≤ m → ∀ (hid : Int) (kb ko dep : Nat) (h : Hd), HomeN n₀ w kb ko h ls → dep + cnt ls ≤ 1099511627776 → ∀ X ∈ sps hid kb ko dep h.b h.o 0 ls, Vld n₀ w X
  | 0, ls, hs, _, _, _, _, _, _, _, _, _ => by cases ls <;> simp at hs
  | m + 1, ls, hs, hid, kb, ko, dep, h, H, hd, X, hX => by
    obtain ⟨j, l, hl, hx⟩ := mem_sps hX
    have hn : 0 < ls.length := by have := (List.getElem?_eq_some_iff.1 hl).1; omega
    obtain ⟨b, o, e, -⟩ := H.home.lies hn
    have eb : h.b = b := by unfold Hd.b; rw [e]
    have eo : h.o = o := by unfold Hd.o; rw [e]
    rw [eb, eo, Nat.zero_add] at hx
    rcases hx with rfl | hx
    · exact ⟨h, ls, o, H, hl, e, rfl, by show dep ≤ _; omega⟩
    · have hsz := List.sizeOf_lt_of_mem (List.mem_of_getElem? hl)
      cases l with
      | mk d p m' q k kids =>
        simp only [Loc.mk.sizeOf_spec] at hsz
        have hc := cnt_at hl
        simp only [Loc.kids] at hc
        exact sps_fuel m kids (by omega) _ _ _ _ _ (H.kids e hl) (by omega) X hx
/-- All spots are ones. -/
theorem sps_valid {n₀ : Nat} {w : World} {hid : Int} {kb ko dep : Nat} {h : Hd} {ls : List Loc} (H : HomeN n₀ w kb ko h ls) (hd : dep + cnt ls ≤ 1099511627776) : ∀ X ∈ sps hid kb ko dep h.b h.o 0 ls, Vld n₀ w X := sps_fuel _ ls (Nat.le_refl _) hid kb ko dep h H hd
theorem Vld.later {n₀ : Nat} {w w' : World} {X : Spt} (v : Vld n₀ w X) (k : Keeps none' w w') : Vld n₀ w' X := by
  obtain ⟨h, ls, off, H, h1, h2, h3⟩ := v
  exact ⟨h, ls, off, H.later k, h1, h2, h3⟩
theorem Vld.kp {n₀ n₁ : Nat} {w w' : World} {X : Spt} (v : Vld n₀ w X) (k : KpS n₀ n₁ w w') : Vld n₀ w' X := by
  obtain ⟨h, ls, off, H, h1, h2, h3⟩ := v
  exact ⟨h, ls, off, H.kp k, h1, h2, h3⟩
/-- The first layer of a number among spots. -/
def findP (id : Int) (xs : List Spt) : Option Spt := xs.find? (fun X => X.l.dat.id == id)
theorem findP_none {id : Int} {xs : List Spt} (h : ∀ x ∈ xs, x.l.dat.id ≠ id) : findP id xs = none := by
  unfold findP
  rw [List.find?_eq_none]
  intro x hx
  simpa using h x hx
theorem findP_some {id : Int} {q r : List Spt} {X : Spt} (h : ∀ x ∈ q, x.l.dat.id ≠ id) (hX : X.l.dat.id = id) : findP id (q ++ X :: r) = some X := by
  unfold findP
  rw [List.find?_append, List.find?_eq_none.2 (fun x hx => by simpa using h x hx)]
  simp [hX]
def Found (id : Int) (xs : List Spt) (e : Ending) : Prop := match findP id xs with
  | some X => e = .returned (.tuple #[.agg #[.int .i64 X.hid, .pointer (some ⟨X.kb, X.ko, none⟩), .int .i64 (X.dep : Int), .int .i64 (X.i : Int)], .bool true])
  | none => e = .returned (.tuple #[.agg #[.int .i64 0, .pointer none, .int .i64 0, .int .i64 0], .bool false])
/-- The call's own blocks while it looks. -/
structure Fnd (w : World) (n₁ : Nat) (id : Int) (c : Array Value) (b : Bool) (W : World) : Prop where
  num : Nb W (w.heap.size + 1) id
  res : W.heap[w.heap.size + 1 + 1]? = some (.cells c 86 (0, 0))
  ok : W.heap[w.heap.size + 1 + 1 + 1]? = some (.cells #[.bool b] 4 (0, 0))
  keeps : Keeps none' w W
  size : n₁ ≤ W.heap.size
theorem Fnd.own {w W W' : World} {n₁ : Nat} {id : Int} {c : Array Value} {b : Bool} {row : Option Nat} {B : Nat} (h : Fnd w n₁ id c b W) (hB : w.heap.size ≤ B) (hg : W.grownBy W' row) (hr : ∀ r, row = some r → B ≤ r ∧ ∃ o : Obj, W.heap[r]? = some o ∧ o.isCells = false) : Fnd w n₁ id c b W' :=
  ⟨block_own h.num hg hr, block_own h.res hg hr, block_own h.ok hg hr, keeps_own h.keeps hB hg hr, Nat.le_trans h.size hg.size⟩
theorem Fnd.later {w W W' : World} {n₁ : Nat} {id : Int} {c : Array Value} {b : Bool} (h : Fnd w n₁ id c b W) (k : Keeps none' W W') : Fnd w n₁ id c b W' :=
  ⟨h.num.later k, (k.later _ (lt_of_block h.res)).trans h.res, (k.later _ (lt_of_block h.ok)).trans h.ok, h.keeps.next k, Nat.le_trans h.size k.size⟩
theorem kpS_own {n₀ n₁ B : Nat} {w8 W W' : World} {row : Option Nat} (h : KpS n₀ n₁ w8 W) (hg : W.grownBy W' row) (hr : ∀ r, row = some r → B ≤ r ∧ ∃ o : Obj, W.heap[r]? = some o ∧ o.isCells = false) : KpS n₀ n₁ w8 W' :=
  ⟨hg.os.trans h.os, hg.tape.trans h.tape, hg.output.trans h.output, Nat.le_trans h.size hg.size, fun b c t f e hb => by
    have h1 := (h.block b c t f e hb).trans e
    rw [block_own h1 hg hr, e]⟩
theorem from_keeps {B : Nat} {W W' : World} (h : Keeps none' W W') : KeepsFrom B W W' := ⟨h.size, fun k o _ hk _ => (h.later k (Array.getElem?_eq_some_iff.1 hk).1).trans hk⟩
/-- What was found is written down. -/
theorem Fnd.hit {w W : World} {n₁ : Nat} {id : Int} {x y z v : Value} (h : Fnd w n₁ id #[x, y, z, v] false W) (x' y' z' v' : Value) (t : Bool) :
    Fnd w n₁ id #[x', y', z', v'] t (((((W.setCell ⟨w.heap.size + 1 + 1, 0, none⟩ x').setCell ⟨w.heap.size + 1 + 1, 1, none⟩ y').setCell ⟨w.heap.size + 1 + 1, 2, none⟩ z').setCell ⟨w.heap.size + 1 + 1, 3, none⟩ v').setCell ⟨w.heap.size + 1 + 1 + 1, 0, none⟩ (.bool t)) := by
  obtain ⟨n, r, o, k, s⟩ := h
  have oth : ∀ (w : World) (b c i : Nat) (u : Value), b ≠ c → (w.setCell ⟨c, i, none⟩ u).heap[b]? = w.heap[b]? := fun w b c i u hb => Below.heap_setCell _ _ _ _ hb
  refine ⟨?_, ?_, ?_, ((((k.setCell (fun e => ?_) _).setCell (fun e => ?_) _).setCell (fun e => ?_) _).setCell (fun e => ?_) _).setCell (fun e => ?_) _, by simpa [World.setCell] using s⟩
  · unfold Nb
    rw [oth _ _ _ _ _ (by omega), oth _ _ _ _ _ (by omega), oth _ _ _ _ _ (by omega), oth _ _ _ _ _ (by omega), oth _ _ _ _ _ (by omega)]
    exact n
  · rw [oth _ _ _ _ _ (by omega)]
    exact block_set (i := 3) (block_set (i := 2) (block_set (i := 1) (block_set (i := 0) r x') y') z') v'
  · have o4 : ((((W.setCell ⟨w.heap.size + 1 + 1, 0, none⟩ x').setCell ⟨w.heap.size + 1 + 1, 1, none⟩ y').setCell ⟨w.heap.size + 1 + 1, 2, none⟩ z').setCell ⟨w.heap.size + 1 + 1, 3, none⟩ v').heap[w.heap.size + 1 + 1 + 1]? = some (.cells #[.bool false] 4 (0, 0)) := by
      rw [oth _ _ _ _ _ (by omega), oth _ _ _ _ _ (by omega), oth _ _ _ _ _ (by omega), oth _ _ _ _ _ (by omega)]
      exact o
    exact block_set (i := 0) o4 (.bool t)
  · have e' : w.heap.size + 1 + 1 < w.heap.size := e; omega
  · have e' : w.heap.size + 1 + 1 < w.heap.size := e; omega
  · have e' : w.heap.size + 1 + 1 < w.heap.size := e; omega
  · have e' : w.heap.size + 1 + 1 < w.heap.size := e; omega
  · have e' : w.heap.size + 1 + 1 + 1 < w.heap.size := e; omega
theorem four_cells {W : World} {b : Nat} {x y z v : Value} {t : TypeId} (h : W.heap[b]? = some (.cells #[x, y, z, v] t (0, 0))) : (W.cell? ⟨b, 0, none⟩ = some x ∧ W.cell? ⟨b, 1, none⟩ = some y ∧ W.cell? ⟨b, 2, none⟩ = some z ∧ W.cell? ⟨b, 3, none⟩ = some v) ∧ ∀ i, W.frozen? ⟨b, i, none⟩ = false := by
  refine ⟨⟨?_, ?_, ?_, ?_⟩, fun i => ?_⟩ <;> simp [World.cell?, World.frozen?, h]
theorem one_cell {W : World} {b : Nat} {x : Value} {t : TypeId} (h : W.heap[b]? = some (.cells #[x] t (0, 0))) : W.cell? ⟨b, 0, none⟩ = some x ∧ W.frozen? ⟨b, 0, none⟩ = false := by
  constructor <;> simp [World.cell?, World.frozen?, h]
theorem results_two {P : Program} {fn : Func} {p u : Tmp} {ty ty2 : TypeId} (h : fn.results = #[.cell p ty, .cell u ty2]) (tmps : Array Value) (w : World) (g g2 : Nat) (t : TypeId) (cs : Array Value) (v : Value) (fr : Nat × Nat) (d : TypeDesc)
    (hp : tmps.getD p undef = .pointer (some ⟨g, 0, none⟩)) (hg : w.heap[g]? = some (.cells cs t fr)) (hu : P.underlying ty = some d) (hd : (match d with | .struct _ | .array _ _ => true | _ => false) = true) (hi : (P.info? ty).map (·.size) = some cs.size)
    (hp2 : tmps.getD u undef = .pointer (some ⟨g2, 0, none⟩)) (hl : (loadVar ty2 ⟨g2, 0, none⟩).run P w = .ok v w) :
    (results fn tmps).run P w = .ok (.tuple #[.agg cs, v]) w := by
  have hp' : tmps[p]?.getD undef = .pointer (some ⟨g, 0, none⟩) := by simpa using hp
  have hp2' : tmps[u]?.getD undef = .pointer (some ⟨g2, 0, none⟩) := by simpa using hp2
  simp [results, h, hp', hp2', asAddr, run_loadVar_row w g t ty cs fr d hg hu hd hi, hl]
theorem load_bool (w : World) (g : Nat) (b : Bool) (h : w.heap[g]? = some (.cells #[.bool b] 4 (0, 0))) : (loadVar 4 ⟨g, 0, none⟩).run Tryz.prog w = .ok (.bool b) w := by
  have hc : w.cell? ⟨g, 0, none⟩ = some (.bool b) := by simp [World.cell?, h]
  simp [go_sem, hc, Tryz.isAgg4, Tryz.underlying4]
theorem size67 : (Tryz.prog.info? 86).map (·.size) = some 4 := by kernel_rfl
set_option maxRecDepth 100000 in
set_option maxHeartbeats 3200000 in
theorem find_any (hid : Int) (kb ko dep : Nat) (h : Hd) (ls : List Loc) (id : Int) (w : World) (H : Home w kb ko h ls) (hd : dep + cnt ls ≤ 1099511627776) :
    Calls Tryz.prog 33 #[.agg #[.int .i64 hid, .pointer (some ⟨kb, ko, none⟩), .int .i64 (dep : Int)], .int .i64 id] w fun e w' => Found id (sps hid kb ko dep h.b h.o 0 ls) e ∧ Keeps none' w w' := by
  have H0 := Lib.hid H.low
  have HD := Lib.hid hd
  clear H hd
  have hs1 : (w.alloc (.cells #[.int .i64 hid, .pointer (some ⟨kb, ko, none⟩), .int .i64 (dep : Int)] 84)).heap.size = w.heap.size + 1 := by simp
  have hs2 : ((w.alloc (.cells #[.int .i64 hid, .pointer (some ⟨kb, ko, none⟩), .int .i64 (dep : Int)] 84)).alloc (.cells #[.int .i64 id] 3)).heap.size = w.heap.size + 2 := by simp
  have hs3 : (((w.alloc (.cells #[.int .i64 hid, .pointer (some ⟨kb, ko, none⟩), .int .i64 (dep : Int)] 84)).alloc (.cells #[.int .i64 id] 3)).alloc (.cells #[.int .i64 0, .pointer none, .int .i64 0, .int .i64 0] 86)).heap.size = w.heap.size + 3 := by simp
  have hs4 : ((((w.alloc (.cells #[.int .i64 hid, .pointer (some ⟨kb, ko, none⟩), .int .i64 (dep : Int)] 84)).alloc (.cells #[.int .i64 id] 3)).alloc (.cells #[.int .i64 0, .pointer none, .int .i64 0, .int .i64 0] 86)).alloc (.cells #[.bool false] 4)).heap.size = w.heap.size + 4 := by simp
  have b0 := heap_alloc_new w (.cells #[.int .i64 hid, .pointer (some ⟨kb, ko, none⟩), .int .i64 (dep : Int)] 84)
  have b1 := heap_alloc_new (w.alloc (.cells #[.int .i64 hid, .pointer (some ⟨kb, ko, none⟩), .int .i64 (dep : Int)] 84)) (.cells #[.int .i64 id] 3)
  have b2 := heap_alloc_new ((w.alloc (.cells #[.int .i64 hid, .pointer (some ⟨kb, ko, none⟩), .int .i64 (dep : Int)] 84)).alloc (.cells #[.int .i64 id] 3)) (.cells #[.int .i64 0, .pointer none, .int .i64 0, .int .i64 0] 86)
  have b3 := heap_alloc_new (((w.alloc (.cells #[.int .i64 hid, .pointer (some ⟨kb, ko, none⟩), .int .i64 (dep : Int)] 84)).alloc (.cells #[.int .i64 id] 3)).alloc (.cells #[.int .i64 0, .pointer none, .int .i64 0, .int .i64 0] 86)) (.cells #[.bool false] 4)
  rw [hs1] at b1
  rw [hs2] at b2
  rw [hs3] at b3
  have k1 := (Keeps.refl none' (w.alloc (.cells #[.int .i64 hid, .pointer (some ⟨kb, ko, none⟩), .int .i64 (dep : Int)] 84))).alloc (.cells #[.int .i64 id] 3)
  have k2 := (Keeps.refl none' ((w.alloc (.cells #[.int .i64 hid, .pointer (some ⟨kb, ko, none⟩), .int .i64 (dep : Int)] 84)).alloc (.cells #[.int .i64 id] 3))).alloc (.cells #[.int .i64 0, .pointer none, .int .i64 0, .int .i64 0] 86)
  have k3 := (Keeps.refl none' (((w.alloc (.cells #[.int .i64 hid, .pointer (some ⟨kb, ko, none⟩), .int .i64 (dep : Int)] 84)).alloc (.cells #[.int .i64 id] 3)).alloc (.cells #[.int .i64 0, .pointer none, .int .i64 0, .int .i64 0] 86))).alloc (.cells #[.bool false] 4)
  have HM := Lib.hid (((show Hm _ w.heap.size hid kb ko dep from b0).later k1).later (k2.next k3))
  have FD := Lib.hid (show Fnd w (w.heap.size + 4) id #[.int .i64 0, .pointer none, .int .i64 0, .int .i64 0] false ((((w.alloc (.cells #[.int .i64 hid, .pointer (some ⟨kb, ko, none⟩), .int .i64 (dep : Int)] 84)).alloc (.cells #[.int .i64 id] 3)).alloc (.cells #[.int .i64 0, .pointer none, .int .i64 0, .int .i64 0] 86)).alloc (.cells #[.bool false] 4)) from
    ⟨((k2.next k3).later _ (lt_of_block b1)).trans b1, (k3.later _ (lt_of_block b2)).trans b2, b3, ((((Keeps.refl none' w).alloc _).alloc _).alloc _).alloc _, by rw [hs4]; exact Nat.le_refl _⟩)
  have ZS := Lib.hid hs4
  clear hs1 hs2 hs3 hs4 b0 b1 b2 b3 k1 k2 k3
  refine (callsIn_wide (n := 2)).1 ?_
  refine callsIn_of_wp_marks Tryz.func33 rfl trivial ?_ rfl
  simp only [Tryz.ntmps33, List.size_toArray, List.length_cons, List.length_nil, Nat.reduceAdd, Nat.reduceSub, Array.replicate_succ, Array.replicate_zero, List.push_toArray, List.append_toArray, List.nil_append, List.cons_append]
  have c0 := HM.out.c0
  have c1 := HM.out.c1
  have c2 := HM.out.c2
  gi_wp2_with ((refine ⟨trivial, ?_⟩); gi_at_call 42; refine (callsIn_wide.2 (spots_any hid kb ko dep _)).mono ?_; rintro e w8 ⟨rfl, hw8⟩)
  have B8 := Lib.hid (Hm.new ((((w.alloc (.cells #[.int .i64 hid, .pointer (some ⟨kb, ko, none⟩), .int .i64 (dep : Int)] 84)).alloc (.cells #[.int .i64 id] 3)).alloc (.cells #[.int .i64 0, .pointer none, .int .i64 0, .int .i64 0] 86)).alloc (.cells #[.bool false] 4)) hid kb ko dep)
  rw [ZS.out] at B8
  have Z8 := Lib.hid (show (((((w.alloc (.cells #[.int .i64 hid, .pointer (some ⟨kb, ko, none⟩), .int .i64 (dep : Int)] 84)).alloc (.cells #[.int .i64 id] 3)).alloc (.cells #[.int .i64 0, .pointer none, .int .i64 0, .int .i64 0] 86)).alloc (.cells #[.bool false] 4)).alloc (.cells #[.int .i64 hid, .pointer (some ⟨kb, ko, none⟩), .int .i64 (dep : Int)] 84)).heap.size = w.heap.size + 5 from by simp)
  have F8 := Lib.hid (show Fnd w (w.heap.size + 5) id #[.int .i64 0, .pointer none, .int .i64 0, .int .i64 0] false (((((w.alloc (.cells #[.int .i64 hid, .pointer (some ⟨kb, ko, none⟩), .int .i64 (dep : Int)] 84)).alloc (.cells #[.int .i64 id] 3)).alloc (.cells #[.int .i64 0, .pointer none, .int .i64 0, .int .i64 0] 86)).alloc (.cells #[.bool false] 4)).alloc (.cells #[.int .i64 hid, .pointer (some ⟨kb, ko, none⟩), .int .i64 (dep : Int)] 84)) from by
    have := FD.out.later ((Keeps.refl none' _).alloc (.cells #[.int .i64 hid, .pointer (some ⟨kb, ko, none⟩), .int .i64 (dep : Int)] 84))
    exact ⟨this.num, this.res, this.ok, this.keeps, by rw [Z8.out]; exact Nat.le_refl _⟩)
  clear FD HM ZS c0 c1 c2
  generalize ((((w.alloc (.cells #[.int .i64 hid, .pointer (some ⟨kb, ko, none⟩), .int .i64 (dep : Int)] 84)).alloc (.cells #[.int .i64 id] 3)).alloc (.cells #[.int .i64 0, .pointer none, .int .i64 0, .int .i64 0] 86)).alloc (.cells #[.bool false] 4)).alloc (.cells #[.int .i64 hid, .pointer (some ⟨kb, ko, none⟩), .int .i64 (dep : Int)] 84) = w8 at *
  have H8 := Lib.hid (H0.out.later F8.out.keeps)
  clear hw8
  refine wpIn_rangeFunc_ownH rfl (by decide) (gf := 66) (lb := #[.pointer (some ⟨w.heap.size + 4, 0, none⟩)]) rfl trivial (enters_of Tryz.func66 (by kernel_rfl) rfl) (spots_stops w.heap.size hid kb ko dep h ls (w.heap.size + 4) w8 B8.out H8.out HD.out) KpS.trans (fun W l o o' hl e1 e2 _ => KpS.put W l o o' e1 e2) (Below.refl _ _) (fun _ => rfl)
    (fun pre W => Fnd w w8.heap.size id #[.int .i64 0, .pointer none, .int .i64 0, .int .i64 0] false W ∧ KpS w.heap.size w8.heap.size w8 W ∧ ∀ x ∈ vals pre, x.l.dat.id ≠ id)
    (fun c pre W => c = .ret ∧ ∃ q X, vals pre = q ++ [X] ∧ (∀ x ∈ q, x.l.dat.id ≠ id) ∧ X.l.dat.id = id ∧ Fnd w w8.heap.size id #[.int .i64 X.hid, .pointer (some ⟨X.kb, X.ko, none⟩), .int .i64 (X.dep : Int), .int .i64 (X.i : Int)] true W)
    (fun pre W W' row hh hg hr => ⟨hh.1.own (by rw [Z8.out]; omega) hg hr, kpS_own hh.2.1 hg hr, hh.2.2⟩)
    (fun c pre W W' row hh hg hr => ⟨hh.1, by
      obtain ⟨q, X, e1, e2, e3, e4⟩ := hh.2
      exact ⟨q, X, e1, e2, e3, e4.own (by rw [Z8.out]; omega) hg hr⟩⟩)
    ⟨by have := F8.out; exact ⟨this.num, this.res, this.ok, this.keeps, Nat.le_refl _⟩, KpS.refl _ _ _, fun x hx => by simp [vals] at hx⟩
    (fun x a' W => ∃ Bx, w8.heap.size ≤ Bx ∧ Sp W Bx x.1.hid x.1.kb x.1.ko (x.1.dep : Int) (x.1.i : Int) ∧ a' = { tmps := #[.agg #[.int .i64 hid, .pointer (some ⟨kb, ko, none⟩), .int .i64 (dep : Int)], .int .i64 id, .pointer (some ⟨w.heap.size, 0, none⟩), .pointer (some ⟨w.heap.size + 1, 0, none⟩), .pointer (some ⟨w.heap.size + 1 + 1, 0, none⟩), .pointer (some ⟨w.heap.size + 1 + 1 + 1, 0, none⟩), .pointer (some ⟨Bx, 0, none⟩), .agg #[.int .i64 hid, .pointer (some ⟨kb, ko, none⟩), .int .i64 (dep : Int)], .func (.func 66) #[] #[.pointer (some ⟨w.heap.size + 1 + 1 + 1 + 1, 0, none⟩)], .agg #[.int .i64 x.1.hid, .pointer (some ⟨x.1.kb, x.1.ko, none⟩), .int .i64 (x.1.dep : Int), .int .i64 (x.1.i : Int)], undef, undef, undef, undef, undef, undef, undef, undef, undef], defers := [] })
    (fun x a' u W W' row hh hg hr => by
      obtain ⟨Bx, q1, q2, q3⟩ := hh
      exact ⟨Bx, q1, block_own q2 hg hr, q3⟩) ?assign ?body ?done ?stop
  case assign =>
    rintro l pre x W K hi hK
    gi_wp2
    have ka := (Keeps.refl none' W).alloc (.cells #[.int .i64 x.1.hid, .pointer (some ⟨x.1.kb, x.1.ko, none⟩), .int .i64 (x.1.dep : Int), .int .i64 (x.1.i : Int)] 86)
    have hKK := hK _ _ (from_keeps ka) (KpS.keeps ka) ⟨hi.1.later ka, hi.2.1.trans (KpS.keeps ka), hi.2.2⟩ ⟨W.heap.size, hi.1.size, Sp.new _ _ _ _ _ _, rfl⟩
    simpa [encV] using hKK
  case body =>
    rintro l pre x a' W hl ⟨rr, hrr⟩ ⟨hF, hkp, hno⟩ ⟨Bx, hBx, bX, rfl⟩ hlt
    have mixed : Tryz.prog.follows .mixedOrders = true := by kernel_rfl
    obtain ⟨x, hv⟩ := x
    simp only at bX ⊢
    obtain ⟨h', ls', off, hh', hl', ha', ho', -⟩ := hv.kp hkp
    have LA := Lib.hid (fun w' (k : Keeps none' W w') => layer_any x.hid x.kb x.ko (x.dep : Int) h' ls' x.i x.l x.b off w' (hh'.home.later k) ha' hl')
    have IDC := Lib.hid (show W.cell? ⟨x.b, off + x.i * 19, none⟩ = some (.int .i64 x.l.dat.id) from by
      obtain ⟨b', o', e, hc⟩ := hh'.home.lies (by have := (List.getElem?_eq_some_iff.1 hl').1; omega)
      rw [ha'] at e
      cases e
      exact hc x.i x.l hl' 0 _ (by cases x.l; rfl))
    have FF := Lib.hid hF
    have KP := Lib.hid hkp
    have NO := Lib.hid hno
    have BX := Lib.hid bX
    have KD := Lib.hid (show Keeps none' W W.drew from (Keeps.refl none' W).drew)
    have KR := Lib.hid (Keeps.refl none' W)
    have t0 := bX.c0
    have t1 := bX.c1
    have t2 := bX.c2
    have t3 := bX.c3
    have n0 := hF.num.c
    have i0 := IDC.out
    clear hF hkp hno hrr hh' hl' ha' ho' bX
    gi_wp2
    gi_region_with_o (refine ⟨trivial, rfl, ?_⟩; gi_at_call 34; refine (CallsIn.inRound l (callsIn_wide.2 (LA.out _ KD.out))).mono ?_; rintro e w' ⟨rfl, hk⟩; have KW := Lib.hid (KD.out.next hk); have i1 := KW.out.cell IDC.out; have n1 := KW.out.cell FF.out.num.c)
    all_goals
      have F2 := Lib.hid (FF.out.later KW.out)
      have KP2 := Lib.hid (KP.out.trans (KpS.keeps KW.out))
      have B2 := Lib.hid (BX.out.later KW.out)
      clear t0 t1 t2 t3 n0 i0 hk i1 n1 LA IDC
      obtain ⟨⟨r0, r1, r2, r3⟩, rf⟩ := four_cells F2.out.res
      obtain ⟨o0, of0⟩ := one_cell F2.out.ok
      have rf0 := rf 0
      have rf1 := rf 1
      have rf2 := rf 2
      have rf3 := rf 3
      have s0 := B2.out.c0
      have s1 := B2.out.c1
      have s2 := B2.out.c2
      have s3 := B2.out.c3
      clear rf
      by_cases he : x.l.dat.id = id
      · have e1 : (x.l.dat.id == id) = true := by simpa using he
        have HE := Lib.hid he
        have HIT := Lib.hid (F2.out.hit (.int .i64 x.hid) (.pointer (some ⟨x.kb, x.ko, none⟩)) (.int .i64 (x.dep : Int)) (.int .i64 (x.i : Int)) true)
        clear he
        gi_wp2
        exact ⟨(from_keeps KW.out).trans (((((KeepsOthers.setCell _ _ _).trans (KeepsOthers.setCell _ _ _)).trans (KeepsOthers.setCell _ _ _)).trans (KeepsOthers.setCell _ _ _)).trans (KeepsOthers.setCell _ _ _) |>.from _), rfl, vals pre, x, by simp [vals], NO.out, HE.out, HIT.out⟩
      · have e1 : (x.l.dat.id == id) = false := by simpa using he
        have HE := Lib.hid he
        clear he
        gi_wp2
        refine ⟨from_keeps KW.out, KpS.keeps KW.out, F2.out, KP2.out, fun y hy => ?_⟩
        simp only [vals, List.map_append, List.map_cons, List.map_nil] at hy
        rcases List.mem_append.1 hy with hy | hy
        · exact NO.out y hy
        · rw [List.mem_singleton.1 hy]
          exact HE.out
  case done =>
    rintro D xs W hD hS ⟨hF, hkp, hno⟩ hK
    have hFD : findP id (sps hid kb ko dep h.b h.o 0 ls) = none := by rw [← hS]; exact findP_none hno
    obtain ⟨⟨r0, r1, r2, r3⟩, rf⟩ := four_cells hF.res
    obtain ⟨o0, of0⟩ := one_cell hF.ok
    have rf0 := rf 0
    have rf1 := rf 1
    have rf2 := rf 2
    have rf3 := rf 3
    have FD := Lib.hid hFD
    have HT := Lib.hid (hF.hit (.int .i64 0) (.pointer none) (.int .i64 0) (.int .i64 0) false)
    have KD := Lib.hid (And.intro hK hD)
    clear hF hkp hno hS hFD rf hK hD
    gi_wp2
    have hd2 := KD.out.2
    rw [Z8.out] at hd2
    have oth : ∀ (w : World) (b c i : Nat) (u : Value), b ≠ c → (w.setCell ⟨c, i, none⟩ u).heap[b]? = w.heap[b]? := fun w b c i u hb => Below.heap_setCell _ _ _ _ hb
    have hK2 : (((((W.setCell ⟨w.heap.size + 1 + 1, 0, none⟩ (.int .i64 0)).setCell ⟨w.heap.size + 1 + 1, 1, none⟩ (.pointer none)).setCell ⟨w.heap.size + 1 + 1, 2, none⟩ (.int .i64 0)).setCell ⟨w.heap.size + 1 + 1, 3, none⟩ (.int .i64 0)).setCell ⟨w.heap.size + 1 + 1 + 1, 0, none⟩ (.bool false)).heap[D]? = some (.deferred (some [])) := by
      rw [oth _ _ _ _ _ (by omega), oth _ _ _ _ _ (by omega), oth _ _ _ _ _ (by omega), oth _ _ _ _ _ (by omega), oth _ _ _ _ _ (by omega)]
      exact KD.out.1
    refine ⟨by simp, .inl ⟨_, _, rfl, run_takeDeferred hK2, ?_⟩⟩
    have HP := HT.out.own (B := w8.heap.size) (by rw [Z8.out]; omega) (grownBy_putObj' _ D (.deferred none)) (fun r e => by cases e; exact ⟨KD.out.2, _, hK2, rfl⟩)
    refine ⟨_, results_two rfl _ _ (w.heap.size + 1 + 1) (w.heap.size + 1 + 1 + 1) 86 _ (.bool false) _ _ rfl HP.res Tryz.underlying86 rfl (by exact size67) rfl (load_bool _ _ _ HP.ok), ?_, HP.keeps⟩
    unfold Found
    rw [FD.out]
  case stop =>
    rintro D c pre W hD hpre ⟨rfl, q, X, e1, e2, e3, hF⟩ hK
    have hFD : findP id (sps hid kb ko dep h.b h.o 0 ls) = some X := by
      obtain ⟨r, hr⟩ := hpre
      rw [← hr, e1, List.append_assoc]
      exact findP_some e2 e3
    clear e1 e2 e3 hpre
    gi_wp2
    refine ⟨by simp, .inl ⟨_, _, rfl, run_takeDeferred hK, ?_⟩⟩
    have HP := hF.own (B := w8.heap.size) (by rw [Z8.out]; omega) (grownBy_putObj' _ D (.deferred none)) (fun r e => by cases e; exact ⟨hD, _, hK, rfl⟩)
    refine ⟨_, results_two rfl _ _ (w.heap.size + 1 + 1) (w.heap.size + 1 + 1 + 1) 86 _ (.bool true) _ _ rfl HP.res Tryz.underlying86 rfl (by exact size67) rfl (load_bool _ _ _ HP.ok), ?_, HP.keeps⟩
    unfold Found
    rw [hFD]
end Go.Proofs.YtfcpbpfemmdklaaGreat.Tr

/- How deep the deepest layer stands. (printed by genTI.py) -/
namespace Go.Proofs.YtfcpbpfemmdklaaGreat.Tr
open Go.RowKit Go.Shelf
attribute [local go_sem] Oper.semAt_some
set_option linter.unusedSimpArgs false
set_option linter.unusedVariables false

/-- The deepest of spots, at least so deep. -/
def deepS (dep : Nat) (xs : List Spt) : Nat := xs.foldl (fun a x => max a (x.dep + 1)) dep
theorem deepS_snoc (dep : Nat) (xs : List Spt) (x : Spt) : deepS dep (xs ++ [x]) = max (deepS dep xs) (x.dep + 1) := by simp [deepS]
theorem deepS_le {dep n : Nat} : ∀ {xs : List Spt} {a : Nat}, a ≤ n → (∀ x ∈ xs, x.dep + 1 ≤ n) → xs.foldl (fun a x => max a (x.dep + 1)) a ≤ n
  | [], a, h, _ => h
  | x :: xs, a, h, hx => by
    rw [List.foldl_cons]
    exact deepS_le (dep := dep) (by have := hx x (by simp); omega) (fun y hy => hx y (by simp [hy]))
theorem sps_deep : ∀ (m : Nat) (ls : List Loc), SizeOf.sizeOf ls ≤ m → ∀ (hid : Int) (kb ko dep b o i : Nat), ∀ X ∈ sps hid kb ko dep b o i ls, X.dep < dep + cnt ls
  | 0, ls, hs, _, _, _, _, _, _, _, _, _ => by cases ls <;> simp at hs
  | m + 1, [], hs, _, _, _, _, _, _, _, X, hX => by rw [sps] at hX; cases hX
  | m + 1, .mk d p m' q k kids :: ls, hs, hid, kb, ko, dep, b, o, i, X, hX => by
    rw [sps] at hX
    simp only [List.cons.sizeOf_spec, Loc.mk.sizeOf_spec] at hs
    rw [cnt]
    rcases List.mem_cons.1 hX with rfl | hX
    · simp only; omega
    · rcases List.mem_append.1 hX with hX | hX
      · have := sps_deep m kids (by omega) _ _ _ _ _ _ _ X hX
        omega
      · have := sps_deep m ls (by omega) _ _ _ _ _ _ _ X hX
        omega
set_option maxRecDepth 100000 in
set_option maxHeartbeats 3200000 in
theorem deepest_any (hid : Int) (kb ko dep : Nat) (h : Hd) (ls : List Loc) (w : World) (H : Home w kb ko h ls) (hd : dep + cnt ls ≤ 1099511627776) :
    Calls Tryz.prog 37 #[.agg #[.int .i64 hid, .pointer (some ⟨kb, ko, none⟩), .int .i64 (dep : Int)]] w fun e w' => e = .returned (.int .i64 (deepS dep (sps hid kb ko dep h.b h.o 0 ls) : Int)) ∧ Keeps none' w w' := by
  have H0 := Lib.hid H.low
  have K1 := Lib.hid (((Keeps.refl none' w).alloc (.cells #[.int .i64 hid, .pointer (some ⟨kb, ko, none⟩), .int .i64 (dep : Int)] 84)).alloc (.cells #[.int .i64 (dep : Int)] 3))
  have A1 := Lib.hid ((Hm.new w hid kb ko dep).later ((Keeps.refl none' _).alloc (.cells #[.int .i64 (dep : Int)] 3)))
  have A0 := Lib.hid (Hm.new w hid kb ko dep)
  have N1 := Lib.hid (heap_alloc_new (w.alloc (.cells #[.int .i64 hid, .pointer (some ⟨kb, ko, none⟩), .int .i64 (dep : Int)] 84)) (.cells #[.int .i64 (dep : Int)] 3))
  have hs : (w.alloc (.cells #[.int .i64 hid, .pointer (some ⟨kb, ko, none⟩), .int .i64 (dep : Int)] 84)).heap.size = w.heap.size + 1 := by simp
  rw [hs] at N1
  have ZS := Lib.hid (show ((w.alloc (.cells #[.int .i64 hid, .pointer (some ⟨kb, ko, none⟩), .int .i64 (dep : Int)] 84)).alloc (.cells #[.int .i64 (dep : Int)] 3)).heap.size = w.heap.size + 2 from by simp)
  have HD := Lib.hid hd
  clear H hd hs
  refine (callsIn_wide (n := 2)).1 ?_
  refine callsIn_of_wp_marks Tryz.func37 rfl trivial ?_ rfl
  simp only [Tryz.ntmps37, List.size_toArray, List.length_cons, List.length_nil, Nat.reduceAdd, Nat.reduceSub, Array.replicate_succ, Array.replicate_zero, List.push_toArray, List.append_toArray, List.nil_append, List.cons_append]
  have a2 := A0.out.c2
  have c0 := A1.out.c0
  have c1 := A1.out.c1
  have c2 := A1.out.c2
  gi_wp2_with ((refine ⟨trivial, ?_⟩); gi_at_call 42; refine (callsIn_wide.2 (spots_any hid kb ko dep _)).mono ?_; rintro e w8 ⟨rfl, hw8⟩)
  have K8 := Lib.hid (K1.out.alloc (.cells #[.int .i64 hid, .pointer (some ⟨kb, ko, none⟩), .int .i64 (dep : Int)] 84))
  have N8 := Lib.hid (show Nb (((w.alloc (.cells #[.int .i64 hid, .pointer (some ⟨kb, ko, none⟩), .int .i64 (dep : Int)] 84)).alloc (.cells #[.int .i64 (dep : Int)] 3)).alloc (.cells #[.int .i64 hid, .pointer (some ⟨kb, ko, none⟩), .int .i64 (dep : Int)] 84)) (w.heap.size + 1) dep from (Below.heap_alloc _ _ _ (lt_of_block N1.out)).trans N1.out)
  have B8 := Lib.hid (Hm.new ((w.alloc (.cells #[.int .i64 hid, .pointer (some ⟨kb, ko, none⟩), .int .i64 (dep : Int)] 84)).alloc (.cells #[.int .i64 (dep : Int)] 3)) hid kb ko dep)
  rw [ZS.out] at B8
  have Z8 := Lib.hid (show (((w.alloc (.cells #[.int .i64 hid, .pointer (some ⟨kb, ko, none⟩), .int .i64 (dep : Int)] 84)).alloc (.cells #[.int .i64 (dep : Int)] 3)).alloc (.cells #[.int .i64 hid, .pointer (some ⟨kb, ko, none⟩), .int .i64 (dep : Int)] 84)).heap.size = w.heap.size + 3 from by simp)
  clear K1 A1 A0 N1 ZS a2 c0 c1 c2 hw8
  generalize ((w.alloc (.cells #[.int .i64 hid, .pointer (some ⟨kb, ko, none⟩), .int .i64 (dep : Int)] 84)).alloc (.cells #[.int .i64 (dep : Int)] 3)).alloc (.cells #[.int .i64 hid, .pointer (some ⟨kb, ko, none⟩), .int .i64 (dep : Int)] 84) = w8 at *
  have H8 := Lib.hid (H0.out.later K8.out)
  refine wpIn_rangeFunc_ownH rfl (by decide) (gf := 66) (lb := #[.pointer (some ⟨w.heap.size + 2, 0, none⟩)]) rfl trivial (enters_of Tryz.func66 (by kernel_rfl) rfl) (spots_stops w.heap.size hid kb ko dep h ls (w.heap.size + 2) w8 B8.out H8.out HD.out) KpS.trans (fun W l o o' hl e1 e2 _ => KpS.put W l o o' e1 e2) (Below.refl _ _) (fun _ => rfl)
    (fun pre W => Nb W (w.heap.size + 1) (deepS dep (vals pre) : Int) ∧ Keeps none' w W ∧ w8.heap.size ≤ W.heap.size ∧ deepS dep (vals pre) ≤ 9007199254740992)
    (fun _ _ _ => False)
    (fun pre W W' row hh hg hr => ⟨block_own hh.1 hg hr, keeps_own hh.2.1 (by rw [Z8.out]; omega) hg hr, Nat.le_trans hh.2.2.1 hg.size, hh.2.2.2⟩)
    (fun _ _ _ _ _ hh _ _ => hh)
    ⟨N8.out, K8.out, Nat.le_refl _, by have := HD.out; show dep ≤ _; omega⟩
    (fun x a' W => ∃ Bx, w8.heap.size ≤ Bx ∧ Sp W Bx x.1.hid x.1.kb x.1.ko (x.1.dep : Int) (x.1.i : Int) ∧ a' = { tmps := #[.agg #[.int .i64 hid, .pointer (some ⟨kb, ko, none⟩), .int .i64 (dep : Int)], .pointer (some ⟨w.heap.size, 0, none⟩), .int .i64 0, .pointer (some ⟨w.heap.size + 1, 0, none⟩), .pointer (some ⟨Bx, 0, none⟩), .pointer (some ⟨w.heap.size, 2, none⟩), .int .i64 (dep : Int), .agg #[.int .i64 hid, .pointer (some ⟨kb, ko, none⟩), .int .i64 (dep : Int)], .func (.func 66) #[] #[.pointer (some ⟨w.heap.size + 1 + 1, 0, none⟩)], .agg #[.int .i64 x.1.hid, .pointer (some ⟨x.1.kb, x.1.ko, none⟩), .int .i64 (x.1.dep : Int), .int .i64 (x.1.i : Int)], undef, undef, undef, undef, undef, undef, undef], defers := [] })
    (fun x a' u W W' row hh hg hr => by
      obtain ⟨Bx, q1, q2, q3⟩ := hh
      exact ⟨Bx, q1, block_own q2 hg hr, q3⟩) ?assign ?body ?done ?stop
  case assign =>
    rintro l pre x W K hi hK
    gi_wp2
    have ka := (Keeps.refl none' W).alloc (.cells #[.int .i64 x.1.hid, .pointer (some ⟨x.1.kb, x.1.ko, none⟩), .int .i64 (x.1.dep : Int), .int .i64 (x.1.i : Int)] 86)
    have hKK := hK _ _ (from_keeps ka) (KpS.keeps ka) ⟨hi.1.later ka, hi.2.1.next ka, Nat.le_trans hi.2.2.1 ka.size, hi.2.2.2⟩ ⟨W.heap.size, hi.2.2.1, Sp.new _ _ _ _ _ _, rfl⟩
    simpa [encV] using hKK
  case body =>
    rintro l pre x a' W hl ⟨rr, hrr⟩ ⟨hN, hk, hsz, hle⟩ ⟨Bx, hBx, bX, rfl⟩ hlt
    obtain ⟨x, hv⟩ := x
    have hxd : x.dep ≤ 1099511627776 := by
      obtain ⟨_, _, _, _, _, _, _, h⟩ := hv
      exact h
    simp only at bX ⊢
    obtain ⟨a, ha⟩ : ∃ a, a = deepS dep (vals pre) := ⟨_, rfl⟩
    rw [← ha] at hN hle
    have HA := Lib.hid ha
    have cN := hN.c
    have fN := hN.fr
    have s2 := bX.c2
    have hb0 : (0 : Int) ≤ (x.dep : Int) := by omega
    have hb1 : (x.dep : Int) ≤ 1099511627776 := by omega
    have HX := Lib.hid hxd
    clear ha hxd hrr
    gi_wp2
    all_goals
      have h2 : a = deepS dep (vals pre) := HA.out
      have hx2 := HX.out
      have e : vals (pre ++ [(⟨x, hv⟩ : VS w.heap.size w8)]) = vals pre ++ [x] := by simp [vals]
      refine ⟨(KeepsOthers.setCell _ _ _).from _, kpS_set W (w.heap.size + 1) 0 _ (by omega) (by rw [Z8.out]; omega), ?_, hk.setCell (fun e => by have e' : w.heap.size + 1 < w.heap.size := e; omega) _, by simp [World.setCell]; omega, ?_⟩
      · rw [e, deepS_snoc, ← h2]
        first
          | (rw [show ((max a (x.dep + 1) : Nat) : Int) = (x.dep : Int) + 1 by omega]; exact hN.set _)
          | (rw [show ((max a (x.dep + 1) : Nat) : Int) = (a : Int) by omega]; exact hN.set _)
      · rw [e, deepS_snoc, ← h2]
        omega
  case done =>
    rintro D xs W hD hS ⟨hN, hk, hsz, hle⟩ hK
    rw [hS] at hN
    have cN := hN.c
    clear hle hS
    gi_wp2
    refine ⟨by simp, .inl ⟨_, _, rfl, run_takeDeferred hK, ?_⟩⟩
    refine ⟨.int .i64 (deepS dep (sps hid kb ko dep h.b h.o 0 ls) : Int), ?_, rfl, hk.grown (grownBy_putObj' _ D (.deferred none)) (fun q hq e => by cases e; rw [Z8.out] at hD; omega)⟩
    simp [results, Tryz.f37, go_sem]
  case stop => exact fun _ _ _ _ _ _ h => h.elim
end Go.Proofs.YtfcpbpfemmdklaaGreat.Tr

/- The root, how many and how deep, groups, layers, what a spot has within it. -/
namespace Go.Proofs.YtfcpbpfemmdklaaGreat.Tr
open Go.RowKit Go.Lib
set_option linter.unusedSimpArgs false
set_option linter.unusedVariables false

set_option maxRecDepth 100000 in
set_option maxHeartbeats 800000 in
theorem root_any (R : Nat) (w : World) : Calls Tryz.prog 32 #[.pointer (some ⟨R, 0, none⟩)] w fun e w' => e = .returned (.agg #[.int .i64 0, .pointer (some ⟨R, 3, none⟩), .int .i64 0]) ∧ Keeps none' w w' := by
  have K0 := Lib.hid ((Keeps.refl none' w).alloc (.cells #[.int .i64 0, .pointer (some ⟨R, 3, none⟩), .int .i64 0] 84))
  go_enter Tryz.func32, Tryz.ntmps32
  go_wp2
  exact bodyPost_ret (results_cell_row rfl _ _ w.heap.size 84 #[.int .i64 0, .pointer (some ⟨R, 3, none⟩), .int .i64 0] (0, 0) _ rfl (heap_alloc_new _ _) Tryz.underlying84 rfl (by kernel_rfl)) rfl ⟨rfl, K0.out⟩
/-- A document in a block of its own. -/
def Dc (w : World) (R : Nat) (x y z : Int) (h : Hd) : Prop := w.heap[R]? = some (.cells #[.int .i64 x, .int .i64 y, .int .i64 z, .slice h.a h.n h.c] 26 (0, 0))
theorem Dc.lt {w : World} {R : Nat} {x y z : Int} {h : Hd} (d : Dc w R x y z h) : R < w.heap.size := lt_of_block d
theorem Dc.c0 {w : World} {R : Nat} {x y z : Int} {h : Hd} (d : Dc w R x y z h) : w.cell? ⟨R, 0, none⟩ = some (.int .i64 x) := by simp [World.cell?, show w.heap[R]? = _ from d]
theorem Dc.c1 {w : World} {R : Nat} {x y z : Int} {h : Hd} (d : Dc w R x y z h) : w.cell? ⟨R, 1, none⟩ = some (.int .i64 y) := by simp [World.cell?, show w.heap[R]? = _ from d]
theorem Dc.c2 {w : World} {R : Nat} {x y z : Int} {h : Hd} (d : Dc w R x y z h) : w.cell? ⟨R, 2, none⟩ = some (.int .i64 z) := by simp [World.cell?, show w.heap[R]? = _ from d]
theorem Dc.c3 {w : World} {R : Nat} {x y z : Int} {h : Hd} (d : Dc w R x y z h) : w.cell? ⟨R, 3, none⟩ = some (.slice h.a h.n h.c) := by simp [World.cell?, show w.heap[R]? = _ from d]
theorem Dc.fr {w : World} {R i : Nat} {x y z : Int} {h : Hd} (d : Dc w R x y z h) : w.frozen? ⟨R, i, none⟩ = false := by simp [World.frozen?, show w.heap[R]? = _ from d]
theorem Dc.new (w : World) (x y z : Int) (h : Hd) : Dc (w.alloc (.cells #[.int .i64 x, .int .i64 y, .int .i64 z, .slice h.a h.n h.c] 26)) w.heap.size x y z h := heap_alloc_new _ _
theorem Dc.later {w w' : World} {R : Nat} {x y z : Int} {h : Hd} (d : Dc w R x y z h) (k : Keeps none' w w') : Dc w' R x y z h := (k.later R d.lt).trans d
/-- A document as it is handed over. -/
structure DocV (w : World) (h : Hd) (ls : List Loc) : Prop where
  row : ReadR w 51 19 h (flat ls)
  rep : Rep w ls
theorem DocV.later {w w' : World} {h : Hd} {ls : List Loc} (d : DocV w h ls) (k : Keeps none' w w') : DocV w' h ls := ⟨d.row.keep k (fun _ _ h => h), d.rep.later k⟩
theorem DocV.home {w : World} {R : Nat} {x y z : Int} {h : Hd} {ls : List Loc} (d : DocV w h ls) (c : Dc w R x y z h) : Home w R 3 h ls := ⟨c.c3, d.row, d.rep⟩
set_option maxRecDepth 100000 in
set_option maxHeartbeats 800000 in
theorem count14 (x y z : Int) (h : Hd) (ls : List Loc) (w : World) (D : DocV w h ls) (hc : cnt ls ≤ 1099511627776) : Calls Tryz.prog 15 #[.agg #[.int .i64 x, .int .i64 y, .int .i64 z, .slice h.a h.n h.c]] w fun e w' => e = .returned (.int .i64 (cnt ls : Int)) ∧ Keeps none' w w' := by
  have K0 := Lib.hid ((Keeps.refl none' w).alloc (.cells #[.int .i64 x, .int .i64 y, .int .i64 z, .slice h.a h.n h.c] 26))
  have C0 := Lib.hid (Dc.new w x y z h)
  have HD := Lib.hid D
  have HC := Lib.hid hc
  clear D hc
  go_enter Tryz.func15, Tryz.ntmps15
  go_wp2_with (first
    | (refine (root_any w.heap.size _).mono ?_; rintro e w2 ⟨rfl, hk2⟩; have K2 := Lib.hid (K0.out.next hk2); have C2 := Lib.hid (C0.out.later hk2); clear hk2)
    | (refine (count_any 0 w.heap.size 3 0 h ls w2 ((HD.out.later K2.out).home C2.out) (by rw [Nat.zero_add]; exact HC.out)).mono ?_; rintro e w3 ⟨rfl, hk3⟩; have K3 := Lib.hid (K2.out.next hk3); clear hk3))
  go_ret
  exact ⟨rfl, K3.out⟩
set_option maxRecDepth 100000 in
set_option maxHeartbeats 800000 in
theorem depth15 (x y z : Int) (h : Hd) (ls : List Loc) (w : World) (D : DocV w h ls) (hc : cnt ls ≤ 1099511627776) : Calls Tryz.prog 16 #[.agg #[.int .i64 x, .int .i64 y, .int .i64 z, .slice h.a h.n h.c]] w fun e w' => ∃ R : Nat, e = .returned (.int .i64 (deepS 0 (sps 0 R 3 0 h.b h.o 0 ls) : Int)) ∧ Keeps none' w w' := by
  have K0 := Lib.hid ((Keeps.refl none' w).alloc (.cells #[.int .i64 x, .int .i64 y, .int .i64 z, .slice h.a h.n h.c] 26))
  have C0 := Lib.hid (Dc.new w x y z h)
  have HD := Lib.hid D
  have HC := Lib.hid hc
  clear D hc
  go_enter Tryz.func16, Tryz.ntmps16
  go_wp2_with (first
    | (refine (root_any w.heap.size _).mono ?_; rintro e w2 ⟨rfl, hk2⟩; have K2 := Lib.hid (K0.out.next hk2); have C2 := Lib.hid (C0.out.later hk2); clear hk2)
    | (refine (deepest_any 0 w.heap.size 3 0 h ls w2 ((HD.out.later K2.out).home C2.out) (by rw [Nat.zero_add]; exact HC.out)).mono ?_; rintro e w3 ⟨rfl, hk3⟩; have K3 := Lib.hid (K2.out.next hk3); clear hk3))
  go_ret
  exact ⟨_, rfl, K3.out⟩
/-- What find answers, as a value. -/
def foundV (X : Option Spt) : Value := match X with
  | some X => .tuple #[.agg #[.int .i64 X.hid, .pointer (some ⟨X.kb, X.ko, none⟩), .int .i64 (X.dep : Int), .int .i64 (X.i : Int)], .bool true]
  | none => .tuple #[.agg #[.int .i64 0, .pointer none, .int .i64 0, .int .i64 0], .bool false]
theorem found_eq {id : Int} {xs : List Spt} {e : Ending} (h : Found id xs e) : e = .returned (foundV (findP id xs)) := by
  unfold Found at h
  unfold foundV
  cases hf : findP id xs with
  | none => rw [hf] at h; exact h
  | some X => rw [hf] at h; exact h
set_option maxRecDepth 100000 in
set_option maxHeartbeats 800000 in
theorem layer57 (R : Nat) (x y z : Int) (h : Hd) (ls : List Loc) (id : Int) (w : World) (C : Dc w R x y z h) (D : DocV w h ls) (hc : cnt ls ≤ 1099511627776) :
    Calls Tryz.prog 84 #[.pointer (some ⟨R, 0, none⟩), .int .i64 id] w fun e w' => (match findP id (sps 0 R 3 0 h.b h.o 0 ls) with
      | some X => e = .returned (.tuple #[.pointer (some ⟨X.b, X.o, none⟩), .int .i64 0])
      | none => e = .returned (.tuple #[.pointer none, .int .i64 40])) ∧ Keeps none' w w' := by
  have HD := Lib.hid D
  have HC := Lib.hid C
  have HN := Lib.hid hc
  clear D C hc
  cases hf : findP id (sps 0 R 3 0 h.b h.o 0 ls) with
  | none =>
    have HF := Lib.hid hf
    clear hf
    go_enter Tryz.func84, Tryz.ntmps84
    go_wp2_with (first
      | (refine (root_any R w).mono ?_; rintro e w2 ⟨rfl, hk2⟩; have K2 := Lib.hid hk2; clear hk2)
      | (refine (find_any 0 R 3 0 h ls id w2 ((HD.out.later K2.out).home (HC.out.later K2.out)) (by rw [Nat.zero_add]; exact HN.out)).mono ?_; rintro e w3 ⟨hf3, hk3⟩; have hf4 := found_eq hf3; rw [HF.out] at hf4; simp only [foundV] at hf4; subst hf4; have K3 := Lib.hid (K2.out.next hk3); clear hk3 hf3))
    go_ret2
    exact ⟨rfl, K3.out.alloc _⟩
  | some X =>
    have HF := Lib.hid hf
    have HV := Lib.hid (fun w' (k : Keeps none' w w') => sps_valid (((HD.out.later k).home (HC.out.later k)).low) (by rw [Nat.zero_add]; exact HN.out) X (List.mem_of_find?_eq_some hf))
    clear hf
    go_enter Tryz.func84, Tryz.ntmps84
    go_wp2_with (first
      | (refine (root_any R w).mono ?_; rintro e w2 ⟨rfl, hk2⟩; have K2 := Lib.hid hk2; clear hk2)
      | (refine (find_any 0 R 3 0 h ls id w2 ((HD.out.later K2.out).home (HC.out.later K2.out)) (by rw [Nat.zero_add]; exact HN.out)).mono ?_; rintro e w3 ⟨hf3, hk3⟩; have hf4 := found_eq hf3; rw [HF.out] at hf4; simp only [foundV] at hf4; subst hf4; have K3 := Lib.hid (K2.out.next hk3); clear hk3 hf3)
      | (obtain ⟨h', ls', off, hh', hl', ha', ho', -⟩ := HV.out _ (K3.out.alloc (.cells #[.int .i64 X.hid, .pointer (some ⟨X.kb, X.ko, none⟩), .int .i64 (X.dep : Int), .int .i64 (X.i : Int)] 86)); refine (layer_any X.hid X.kb X.ko (X.dep : Int) h' ls' X.i X.l X.b off _ hh'.home ha' hl').mono ?_; rw [← ho']; rintro e w4 ⟨rfl, hk4⟩; have K4 := Lib.hid ((K3.out.alloc _).next hk4); clear hk4 hh' hl' ha' ho'))
    go_ret2
    exact ⟨rfl, K4.out⟩
theorem results_cell_row2 {P : Program} {fn : Func} {p u : Tmp} {ty : TypeId} (h : fn.results = #[.cell p ty, .tmp u]) (tmps : Array Value) (w : World) (g : Nat) (t : TypeId) (cs : Array Value) (fr : Nat × Nat) (d : TypeDesc)
    (hp : tmps.getD p undef = .pointer (some ⟨g, 0, none⟩)) (hg : w.heap[g]? = some (.cells cs t fr))
    (hu : P.underlying ty = some d) (hd : (match d with | .struct _ | .array _ _ => true | _ => false) = true) (hi : (P.info? ty).map (·.size) = some cs.size) :
    (results fn tmps).run P w = .ok (.tuple #[.agg cs, tmps.getD u undef]) w := by
  have hp' : tmps[p]?.getD undef = .pointer (some ⟨g, 0, none⟩) := by simpa using hp
  simp [results, h, hp', asAddr, run_loadVar_row w g t ty cs fr d hg hu hd hi]
theorem three_cells {W : World} {b : Nat} {x y z : Value} {t : TypeId} (h : W.heap[b]? = some (.cells #[x, y, z] t (0, 0))) : (W.cell? ⟨b, 0, none⟩ = some x ∧ W.cell? ⟨b, 1, none⟩ = some y ∧ W.cell? ⟨b, 2, none⟩ = some z) ∧ ∀ i, W.frozen? ⟨b, i, none⟩ = false := by
  refine ⟨⟨?_, ?_, ?_⟩, fun i => ?_⟩ <;> simp [World.cell?, World.frozen?, h]
def homeV (id : Int) (a : Option Addr) (dep : Int) : Value := .agg #[.int .i64 id, .pointer a, .int .i64 dep]
theorem keeps_set3 {w w' : World} (k : Keeps none' w w') {Z : Nat} (hZ : w.heap.size ≤ Z) (x y z : Value) : Keeps none' w (((w'.setCell ⟨Z, 0, none⟩ x).setCell ⟨Z, 1, none⟩ y).setCell ⟨Z, 2, none⟩ z) :=
  ((k.setCell (fun e => by have e' : Z < w.heap.size := e; omega) _).setCell (fun e => by have e' : Z < w.heap.size := e; omega) _).setCell (fun e => by have e' : Z < w.heap.size := e; omega) _
theorem block_set3 {w : World} {R : Nat} {x y z : Value} (h : w.heap[R]? = some (.cells #[x, y, z] 84 (0, 0))) (x' y' z' : Value) :
    (((w.setCell ⟨R, 0, none⟩ x').setCell ⟨R, 1, none⟩ y').setCell ⟨R, 2, none⟩ z').heap[R]? = some (.cells #[x', y', z'] 84 (0, 0)) := by
  have h0 := block_set (i := 0) h x'
  have h1 := block_set (i := 1) h0 y'
  have h2 := block_set (i := 2) h1 z'
  exact h2
/-- A group, or the root. -/
def groupV (R : Nat) (id : Int) (xs : List Spt) : Value × Int :=
  if id = 0 then (homeV 0 (some ⟨R, 3, none⟩) 0, 0) else match findP id xs with
  | none => (homeV 0 none 0, 40)
  | some X => if X.l.dat.kind = 1 then (homeV X.l.dat.id (some ⟨X.b, X.o + 18, none⟩) ((X.dep + 1 : Nat) : Int), 0) else (homeV 0 none 0, 41)
set_option maxRecDepth 100000 in
set_option maxHeartbeats 1600000 in
theorem group47 (R : Nat) (x y z : Int) (h : Hd) (ls : List Loc) (id : Int) (w : World) (C : Dc w R x y z h) (D : DocV w h ls) (hc : cnt ls ≤ 1099511627776) :
    Calls Tryz.prog 74 #[.pointer (some ⟨R, 0, none⟩), .int .i64 id] w fun e w' => e = .returned (.tuple #[(groupV R id (sps 0 R 3 0 h.b h.o 0 ls)).1, .int .i64 (groupV R id (sps 0 R 3 0 h.b h.o 0 ls)).2]) ∧ Keeps none' w w' := by
  have HD := Lib.hid D
  have HC := Lib.hid C
  have HN := Lib.hid hc
  have R0 := Lib.hid (heap_alloc_new w (.cells #[.int .i64 0, .pointer none, .int .i64 0] 84))
  have K0 := Lib.hid ((Keeps.refl none' w).alloc (.cells #[.int .i64 0, .pointer none, .int .i64 0] 84))
  clear D C hc
  by_cases h0 : id = 0
  · subst h0
    have GV := Lib.hid (show groupV R 0 (sps 0 R 3 0 h.b h.o 0 ls) = (homeV 0 (some ⟨R, 3, none⟩) 0, 0) from by unfold groupV; rw [if_pos rfl])
    go_enter Tryz.func74, Tryz.ntmps74
    go_upto_region 2 with (fail)
    generalize w.alloc (.cells #[.int .i64 0, .pointer none, .int .i64 0] 84) = w1 at *
    obtain ⟨Z, hZ⟩ : ∃ Z, Z = w.heap.size := ⟨_, rfl⟩
    rw [← hZ] at R0
    rw [← hZ]
    have ZS := Lib.hid (show w.heap.size ≤ Z from by omega)
    clear hZ
    go_wp2_with (refine (root_any R w1).mono ?_; rintro e w2 ⟨rfl, hk2⟩; have K2 := Lib.hid (K0.out.next hk2); have R2 := Lib.hid ((hk2.later Z (lt_of_block R0.out)).trans R0.out); obtain ⟨⟨r0, r1, r2⟩, rf⟩ := three_cells R2.out; have f0 := rf 0; have f1 := rf 1; have f2 := rf 2; clear hk2 rf)
    refine bodyPost_ret (results_cell_row2 rfl _ _ Z 84 _ (0, 0) _ rfl (block_set3 R2.out _ _ _) Tryz.underlying84 rfl (by kernel_rfl)) rfl ?_
    rw [GV.out]
    exact ⟨rfl, keeps_set3 K2.out ZS.out _ _ _⟩
  · have e0 : (id == 0) = false := by simpa using h0
    obtain ⟨Z, hZ⟩ : ∃ Z, Z = w.heap.size := ⟨_, rfl⟩
    have ZS := Lib.hid hZ
    cases hf : findP id (sps 0 R 3 0 h.b h.o 0 ls) with
    | none =>
      have HF := Lib.hid hf
      have GV := Lib.hid (show groupV R id (sps 0 R 3 0 h.b h.o 0 ls) = (homeV 0 none 0, 40) from by unfold groupV; rw [if_neg h0, hf])
      clear hf h0
      go_enter Tryz.func74, Tryz.ntmps74
      go_upto_region 3 with (fail)
      generalize w.alloc (.cells #[.int .i64 0, .pointer none, .int .i64 0] 84) = w1 at *
      rw [← hZ] at R0
      rw [← hZ]
      clear hZ
      go_upto_region 5 with (first
        | (refine (root_any R w1).mono ?_; rintro e w2 ⟨rfl, hk2⟩; have K2 := Lib.hid (K0.out.next hk2); have K12 := Lib.hid hk2; clear hk2)
        | (refine (find_any 0 R 3 0 h ls id w2 ((HD.out.later K2.out).home (HC.out.later K2.out)) (by rw [Nat.zero_add]; exact HN.out)).mono ?_; rintro e w3 ⟨hf3, hk3⟩; have hf4 := found_eq hf3; rw [HF.out] at hf4; simp only [foundV] at hf4; subst hf4; have K3 := Lib.hid (K2.out.next hk3); have K13 := Lib.hid (K12.out.next hk3); clear hk3 hf3))
      have R3 := Lib.hid (((K13.out.alloc (.cells #[.int .i64 0, .pointer none, .int .i64 0, .int .i64 0] 86)).later Z (lt_of_block R0.out)).trans R0.out)
      have K4 := Lib.hid (K3.out.alloc (.cells #[.int .i64 0, .pointer none, .int .i64 0, .int .i64 0] 86))
      generalize w3.alloc (.cells #[.int .i64 0, .pointer none, .int .i64 0, .int .i64 0] 86) = w4 at *
      obtain ⟨⟨r0, r1, r2⟩, rf⟩ := three_cells R3.out
      have f0 := rf 0
      have f1 := rf 1
      have f2 := rf 2
      clear rf
      go_wp2_with fail
      refine bodyPost_ret (results_cell_row2 rfl _ _ Z 84 _ (0, 0) _ rfl (block_set3 R3.out _ _ _) Tryz.underlying84 rfl (by kernel_rfl)) rfl ?_
      rw [GV.out]
      exact ⟨rfl, keeps_set3 K4.out (by rw [ZS.out]; exact Nat.le_refl _) _ _ _⟩
    | some X =>
      have HF := Lib.hid hf
      have HV := Lib.hid (fun w' (k : Keeps none' w w') => sps_valid (((HD.out.later k).home (HC.out.later k)).low) (by rw [Nat.zero_add]; exact HN.out) X (List.mem_of_find?_eq_some hf))
      have GV := Lib.hid (show groupV R id (sps 0 R 3 0 h.b h.o 0 ls) = if X.l.dat.kind = 1 then (homeV X.l.dat.id (some ⟨X.b, X.o + 18, none⟩) ((X.dep + 1 : Nat) : Int), 0) else (homeV 0 none 0, 41) from by unfold groupV; rw [if_neg h0, hf])
      clear hf h0
      go_enter Tryz.func74, Tryz.ntmps74
      go_upto_region 3 with (fail)
      generalize w.alloc (.cells #[.int .i64 0, .pointer none, .int .i64 0] 84) = w1 at *
      rw [← hZ] at R0
      rw [← hZ]
      clear hZ
      go_upto_region 6 with (first
        | (refine (root_any R w1).mono ?_; rintro e w2 ⟨rfl, hk2⟩; have K2 := Lib.hid (K0.out.next hk2); have K12 := Lib.hid hk2; clear hk2)
        | (refine (find_any 0 R 3 0 h ls id w2 ((HD.out.later K2.out).home (HC.out.later K2.out)) (by rw [Nat.zero_add]; exact HN.out)).mono ?_; rintro e w3 ⟨hf3, hk3⟩; have hf4 := found_eq hf3; rw [HF.out] at hf4; simp only [foundV] at hf4; subst hf4; have K3 := Lib.hid (K2.out.next hk3); have K13 := Lib.hid (K12.out.next hk3); clear hk3 hf3))
      obtain ⟨S, hS⟩ : ∃ S, S = w3.heap.size := ⟨_, rfl⟩
      have R3 := Lib.hid (((K13.out.alloc (.cells #[.int .i64 X.hid, .pointer (some ⟨X.kb, X.ko, none⟩), .int .i64 (X.dep : Int), .int .i64 (X.i : Int)] 86)).later Z (lt_of_block R0.out)).trans R0.out)
      have K4 := Lib.hid (K3.out.alloc (.cells #[.int .i64 X.hid, .pointer (some ⟨X.kb, X.ko, none⟩), .int .i64 (X.dep : Int), .int .i64 (X.i : Int)] 86))
      have S4 := Lib.hid (Sp.new w3 X.hid X.kb X.ko (X.dep : Int) (X.i : Int))
      rw [← hS] at S4
      rw [← hS]
      clear hS
      generalize w3.alloc (.cells #[.int .i64 X.hid, .pointer (some ⟨X.kb, X.ko, none⟩), .int .i64 (X.dep : Int), .int .i64 (X.i : Int)] 86) = w4 at *
      obtain ⟨h', ls', off, hh', hl', ha', ho', hd'⟩ := HV.out w4 K4.out
      have LA := Lib.hid (layer_any X.hid X.kb X.ko (X.dep : Int) h' ls' X.i X.l X.b off w4 hh'.home ha' hl')
      have HK := Lib.hid (show ∀ w', Keeps none' w4 w' → w'.cell? ⟨X.b, X.o + 1, none⟩ = some (.int .i64 X.l.dat.kind) from fun w' k => by
        obtain ⟨b', o', e, hc⟩ := (hh'.home.later k).lies (by have := (List.getElem?_eq_some_iff.1 hl').1; omega)
        rw [ha'] at e
        cases e
        rw [ho']
        exact hc X.i X.l hl' 1 _ (by cases X.l; rfl))
      have WI := Lib.hid (fun w' (k : Keeps none' w4 w') => within_any X.hid X.kb X.ko X.dep h' ls' X.i X.l X.b off w' (hh'.home.later k) ha' hl' hd')
      have HO := Lib.hid ho'
      clear hh' hl' ha' ho' hd'
      have s0 := S4.out.c0
      have s1 := S4.out.c1
      have s2 := S4.out.c2
      have s3 := S4.out.c3
      by_cases hk : X.l.dat.kind = 1
      · rw [if_pos hk] at GV
        have e1 : (X.l.dat.kind == 1) = true := by simpa using hk
        have e2 : (X.l.dat.kind != 1) = false := by simp [hk]
        clear hk
        go_upto_region 8 with (refine LA.out.mono ?_; rw [← HO.out]; rintro e w5 ⟨rfl, hk5⟩; have K5 := Lib.hid (K4.out.next hk5); have K45 := Lib.hid hk5; have kd := HK.out w5 hk5; clear hk5)
        have S5 := Lib.hid (S4.out.later K45.out)
        have R5 := Lib.hid ((K45.out.later Z (lt_of_block R3.out)).trans R3.out)
        clear s0 s1 s2 s3
        have s0 := S5.out.c0
        have s1 := S5.out.c1
        have s2 := S5.out.c2
        have s3 := S5.out.c3
        go_wp2_with (refine (WI.out w5 K45.out).mono ?_; rw [← HO.out]; rintro e w6 ⟨rfl, hk6⟩; have K6 := Lib.hid (K5.out.next hk6); have R6 := Lib.hid ((hk6.later Z (lt_of_block R5.out)).trans R5.out); obtain ⟨⟨r0, r1, r2⟩, rf⟩ := three_cells R6.out; have f0 := rf 0; have f1 := rf 1; have f2 := rf 2; clear hk6 rf)
        refine bodyPost_ret (results_cell_row2 rfl _ _ Z 84 _ (0, 0) _ rfl (block_set3 R6.out _ _ _) Tryz.underlying84 rfl (by kernel_rfl)) rfl ?_
        rw [GV.out]
        exact ⟨rfl, keeps_set3 K6.out (by rw [ZS.out]; exact Nat.le_refl _) _ _ _⟩
      · rw [if_neg hk] at GV
        have e1 : (X.l.dat.kind == 1) = false := by simpa using hk
        have e2 : (X.l.dat.kind != 1) = true := by simpa using hk
        clear hk
        go_upto_region 7 with (refine LA.out.mono ?_; rw [← HO.out]; rintro e w5 ⟨rfl, hk5⟩; have K5 := Lib.hid (K4.out.next hk5); have K45 := Lib.hid hk5; have kd := HK.out w5 hk5; clear hk5)
        have R5 := Lib.hid ((K45.out.later Z (lt_of_block R3.out)).trans R3.out)
        obtain ⟨⟨r0, r1, r2⟩, rf⟩ := three_cells R5.out
        have f0 := rf 0
        have f1 := rf 1
        have f2 := rf 2
        clear rf s0 s1 s2 s3
        go_wp2_with fail
        refine bodyPost_ret (results_cell_row2 rfl _ _ Z 84 _ (0, 0) _ rfl (block_set3 R5.out _ _ _) Tryz.underlying84 rfl (by kernel_rfl)) rfl ?_
        rw [GV.out]
        exact ⟨rfl, keeps_set3 K5.out (by rw [ZS.out]; exact Nat.le_refl _) _ _ _⟩
end Go.Proofs.YtfcpbpfemmdklaaGreat.Tr
