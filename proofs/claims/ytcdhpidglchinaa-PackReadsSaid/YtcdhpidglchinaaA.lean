/- What stays in memory; rows of cells; append of rows. -/
import Derived.Test.YtcdhpidglchinaaProg
import Derived.WalkKit
import Derived.WalkLawsBesides
import Derived.OneCell
import Derived.Outline
import Derived.Lib.Hide
import Derived.StillTailTactics
import Derived.BigQuiet
import Derived.BigRegion
import Derived.LoopTactic
import Derived.RegionTactic
import Derived.Deep.DeepMust
import Derived.Deep.QuietTactic
import Derived.Deep.LoopGhost
import Derived.Deep.OwnRows
import Derived.Deep.RegionHeld3
import Derived.Deep.RegionLaw
import Derived.Deep.Cut
import Derived.Maps.AppendAt
import Derived.Laws.AppendOwnNone
import Derived.OwnWalk
import Derived.Laws.MakeOwn
import Derived.Laws.CopyOwn
import Derived.Laws.BitsAllLaws
import Derived.IntWalk
namespace Go.Proofs.Ytcdhpidglchinaa
open Go.RowKit
set_option linter.unusedSimpArgs false
set_option linter.unusedVariables false

theorem wrap_i64 (n : Int) (h0 : -9223372036854775808 ≤ n) (h1 : n ≤ 9223372036854775807) : IntKind.i64.wrap n = n := by
  simp [IntKind.wrap, IntKind.bits, IntKind.signed]
  omega
theorem lt_of_block {w : World} {R : Nat} {o : Obj} (h : w.heap[R]? = some o) : R < w.heap.size := by
  obtain ⟨h, -⟩ := Array.getElem?_eq_some_iff.1 h
  exact h
/-- The blocks outside S are as they were. -/
structure Keeps (S : Nat → Prop) (w w' : World) : Prop where
  os : w'.os = w.os
  tape : w'.tape = w.tape
  output : w'.output = w.output
  size : w.heap.size ≤ w'.heap.size
  block : ∀ k, k < w.heap.size → ¬ S k → w'.heap[k]? = w.heap[k]?

theorem Keeps.refl (S : Nat → Prop) (w : World) : Keeps S w w := ⟨rfl, rfl, rfl, Nat.le_refl _, fun _ _ _ => rfl⟩
theorem Keeps.trans {S S1 : Nat → Prop} {a b c : World} (h : Keeps S a b) (k : Keeps S1 b c) (hS : ∀ i, i < a.heap.size → S1 i → S i) : Keeps S a c :=
  ⟨k.os.trans h.os, k.tape.trans h.tape, k.output.trans h.output, Nat.le_trans h.size k.size,
    fun i hi hn => (k.block i (Nat.lt_of_lt_of_le hi h.size) (fun s => hn (hS i hi s))).trans (h.block i hi hn)⟩
theorem Keeps.drewN {S : Nat → Prop} {a w : World} (h : Keeps S a w) (n : Nat) : Keeps S a (w.drewN n) := ⟨h.os, h.tape, h.output, h.size, h.block⟩
theorem Keeps.drew {S : Nat → Prop} {a w : World} (h : Keeps S a w) : Keeps S a w.drew := ⟨h.os, h.tape, h.output, h.size, h.block⟩
theorem Keeps.alloc {S : Nat → Prop} {a w : World} (h : Keeps S a w) (o : Obj) : Keeps S a (w.alloc o) :=
  ⟨h.os, h.tape, h.output, by have := h.size; simp; omega, fun i hi hn => (Below.heap_alloc _ _ _ (Nat.lt_of_lt_of_le hi h.size)).trans (h.block i hi hn)⟩
theorem Keeps.setCell {S : Nat → Prop} {a w : World} (h : Keeps S a w) {p : Addr} (hp : p.block < a.heap.size → S p.block) (u : Value) : Keeps S a (w.setCell p u) :=
  ⟨h.os, h.tape, h.output, by simp [World.setCell]; exact h.size, fun i hi hn => (Below.heap_setCell _ _ _ _ (fun e => hn (by subst e; exact hp hi))).trans (h.block i hi hn)⟩
theorem Keeps.below {S : Nat → Prop} {B : Nat} {w w' : World} (h : Keeps S w w') (hB : B ≤ w.heap.size) (hS : ∀ k, k < B → ¬ S k) : Below B w w' :=
  ⟨h.os, h.tape, h.output, h.size, fun k hk => h.block k (by omega) (hS k hk)⟩
/-- Nothing that was there has changed. -/
def none' : Nat → Prop := fun _ => False
theorem Keeps.later {w w' : World} (h : Keeps none' w w') : ∀ k, k < w.heap.size → w'.heap[k]? = w.heap[k]? := fun k hk => h.block k hk (fun h => h)
theorem Keeps.next {a b c : World} (h : Keeps none' a b) (k : Keeps none' b c) : Keeps none' a c := h.trans k (fun _ _ h => h)
theorem block_set {w : World} {R i : Nat} {c : Array Value} {t : TypeId} {f : Nat × Nat} (h : w.heap[R]? = some (.cells c t f)) (u : Value) :
    (w.setCell ⟨R, i, none⟩ u).heap[R]? = some (.cells (c.setIfInBounds i u) t f) := by
  simp only [World.setCell, Array.getElem?_modify, h]
  simp
theorem Keeps.cell {w w' : World} (h : Keeps none' w w') {p : Addr} {v : Value} (hc : w.cell? p = some v) : w'.cell? p = some v := by
  have hb := World.block_lt_of_cell? w _ hc
  exact (World.cell?_of_block (w := w) (h.later p.block hb)).trans hc
theorem add_spot (b off j : Nat) : ((⟨b, off, none⟩ : Addr).add j) = ⟨b, off + j, none⟩ := by
  unfold Addr.add
  split
  · rename_i h; subst h; rfl
  · rfl
theorem Keeps.grown {S : Nat → Prop} {w w1 w2 : World} (h : Keeps S w w1) {b : Option Nat} (g : w1.grownBy w2 b) (hb : ∀ q, q < w.heap.size → b = some q → S q) : Keeps S w w2 :=
  ⟨g.os.trans h.os, g.tape.trans h.tape, g.output.trans h.output, Nat.le_trans h.size g.size,
    fun i hi hn => (g.block i (Nat.lt_of_lt_of_le hi h.size) (fun e => hn (hb i hi e.symm))).trans (h.block i hi hn)⟩
/-- A slice's header. -/
structure Hd where
  a : Option Addr
  n : Nat
  c : Nat
def Hd.nil : Hd := ⟨none, 0, 0⟩
/-- What stands in a slice whose elements are of k cells each. -/
structure Cells (k : Nat) (w : World) (h : Hd) (vs : List Value) : Prop where
  len : vs.length = h.n * k
  cap : h.n ≤ h.c
  abs : h.a = none → h.n = 0 ∧ h.c = 0
  one : ∀ u ∈ vs, u.oneCell' = true
  at' : ∀ x, h.a = some x → 0 < h.n → x.spot = none ∧ x.block < w.heap.size ∧ ∀ j u, vs[j]? = some u → w.cell? ⟨x.block, x.off + j, none⟩ = some u
theorem Cells.keep {X : Nat → Prop} {k : Nat} {w w' : World} {h : Hd} {vs : List Value} (c : Cells k w h vs) (kk : Keeps X w w') (hX : ∀ x, h.a = some x → 0 < h.n → ¬ X x.block) : Cells k w' h vs := by
  refine ⟨c.len, c.cap, c.abs, c.one, fun x hx hp => ?_⟩
  obtain ⟨h1, h2, h3⟩ := c.at' x hx hp
  refine ⟨h1, Nat.lt_of_lt_of_le h2 kk.size, fun j u hj => ?_⟩
  have e : w'.cell? ⟨x.block, x.off + j, Option.none⟩ = w.cell? ⟨x.block, x.off + j, Option.none⟩ := World.cell?_of_block (kk.block x.block h2 (hX x hx hp))
  exact e.trans (h3 j u hj)
theorem Cells.later {k : Nat} {w w' : World} {h : Hd} {vs : List Value} (c : Cells k w h vs) (kk : Keeps none' w w') : Cells k w' h vs := c.keep kk (fun _ _ _ h => h)
theorem Cells.nil (k : Nat) (w : World) : Cells k w Hd.nil [] := ⟨by simp [Hd.nil], Nat.le_refl _, fun _ => ⟨rfl, rfl⟩, fun u hu => (by cases hu), fun x hx _ => (by cases hx)⟩
/-- A row of the call's own is a row. -/
theorem own_cells {w : World} {N e k n : Nat} {v : Value} {vs : List Value} (h : w.ownsRow N e k v n vs) (h1 : ∀ u ∈ vs, u.oneCell' = true) : ∃ hd : Hd, v = (.slice hd.a hd.n hd.c) ∧ hd.n = n ∧ Cells k w hd vs ∧ ∀ x, hd.a = some x → N ≤ x.block ∧ x.off = 0 := by
  obtain ⟨hl, h2⟩ := h
  rcases h2 with ⟨rfl, rfl⟩ | ⟨g, cap, cur, rfl, hB, hh, p1, p2, p3, p4⟩
  · exact ⟨Hd.nil, rfl, rfl, ⟨by simpa [Hd.nil] using hl, Nat.le_refl _, fun _ => ⟨rfl, rfl⟩, h1, fun x hx _ => (by cases hx)⟩, fun x hx => (by cases hx)⟩
  · refine ⟨⟨some ⟨g, 0, none⟩, n, cap⟩, rfl, rfl, ⟨hl, p1, fun h => (by cases h), h1, fun x hx _ => ?_⟩, fun x hx => ?_⟩
    · cases hx
      refine ⟨rfl, lt_of_block hh, fun j u hj => ?_⟩
      simp only [Nat.zero_add]
      rw [cell_of_row _ _ _ _ _ _ hh]
      have hjl : j < vs.length := (List.getElem?_eq_some_iff.1 hj).1
      rw [← p4, List.getElem?_take_of_lt (by omega)] at hj
      rw [← Array.getElem?_toList]
      exact hj
    · cases hx
      exact ⟨hB, rfl⟩

theorem info3 : (Try.prog.info? 3).map (fun i => (i.zero, i.size, i.bytes)) = some (some (.int .i64 0), 1, 8) := by kernel_rfl
theorem info5 : (Try.prog.info? 5).map (fun i => (i.zero, i.size, i.bytes)) = some (some (.int .u8 0), 1, 1) := by kernel_rfl
theorem infoPt : (Try.prog.info? 60).map (fun i => (i.zero, i.size, i.bytes)) = some (some (.agg #[.int .i64 0, .int .i64 0]), 2, 16) := by kernel_rfl
theorem own_hd {w : World} {N e k n : Nat} {v : Value} {vs : List Value} (h : w.ownsRow N e k v n vs) : ∃ hd : Hd, v = (.slice hd.a hd.n hd.c) ∧ hd.n = n := by
  rcases h.2 with ⟨rfl, rfl⟩ | ⟨g, cap, cur, rfl, _⟩
  · exact ⟨Hd.nil, rfl, rfl⟩
  · exact ⟨⟨some ⟨g, 0, none⟩, n, cap⟩, rfl, rfl⟩
/-- append of a row to one of the call's own. -/
theorem run_append_row (w : World) (S ty E : TypeId) (i0 : TypeInfo) (z : Value) (k bytes : Nat) (hS : Try.prog.underlying S = some (.slice E)) (hi : Try.prog.info? E = some i0) (hz : i0.zero = some z) (hk : i0.size = k) (hby : i0.bytes = bytes) (hzs : z.cells.size = k) (hk0 : 0 < k) (hb16 : bytes ≤ 16)
    (base n : Nat) (v : Value) (vs : List Value) (hown : w.ownsRow base E k v n vs) (h : Hd) (us : List Value) (hc : Cells k w h us) (hn : n ≤ 536870912) (hm : h.n ≤ 536870912) (hbase : base ≤ w.heap.size) :
    ∃ aa cap w', (Builtin.append_ #[S, S] ty #[v, .slice h.a h.n h.c]).run Try.prog w = .ok (.slice aa (n + h.n) cap) w' ∧
      w'.ownsRow base E k (.slice aa (n + h.n) cap) (n + h.n) (vs ++ us) ∧ w.grownBy w' v.ownBlock ∧ ((Value.slice aa (n + h.n) cap).ownBlock = v.ownBlock ∨ (Value.slice aa (n + h.n) cap).ownBlock = some w.heap.size) := by
  obtain ⟨a, m, c⟩ := h
  obtain ⟨hl, hcap, hnone, hone, hat⟩ := hc
  simp only at hl hcap hnone hm
  cases a with
  | none =>
    obtain ⟨rfl, rfl⟩ := hnone rfl
    obtain rfl : us = [] := List.eq_nil_of_length_eq_zero (by omega)
    subst hk
    have hr := run_append_owned_none (P := Try.prog) (w := w) base S ty E i0 _ hS hi _ _ _ hown
    obtain ⟨hd, rfl, rfl⟩ := own_hd hown
    refine ⟨hd.a, hd.c, w, hr, ?_, ⟨rfl, rfl, rfl, Nat.le_refl _, fun _ _ _ => rfl⟩, Or.inl rfl⟩
    rw [List.append_nil]
    exact hown
  | some x =>
    have hnew : ∀ j u, us[j]? = some u → w.cell? (x.add j) = some u := by
      intro j u hj
      have hjl := (List.getElem?_eq_some_iff.1 hj).1
      obtain ⟨h1, h2, h3⟩ := hat x rfl (by rcases Nat.eq_zero_or_pos m with e | e; rw [e, Nat.zero_mul] at hl; omega; exact e)
      obtain ⟨b, off, sp⟩ := x
      simp only at h1 h2 h3
      subst h1
      rw [add_spot]
      exact h3 j u hj
    have hbb : (n + m) * bytes ≤ (n + m) * 16 := Nat.mul_le_mul_left _ hb16
    obtain ⟨v', w', hr, o1, o2, o4, o5⟩ := run_append_own_at (P := Try.prog) w base S ty E i0 z k bytes hS hi hz hk hby hzs hk0 v n vs hown x m c us hl hnew hone (by unfold maxLen; omega) (by omega) hbase
    obtain ⟨hd, rfl, hn'⟩ := own_hd o1
    rw [hn'] at hr o1 o5
    exact ⟨hd.a, hd.c, w', hr, o1, o2, o5⟩
theorem wpList_append_row {w : World} {ops : Array Oper} {rest : List Oper} {o : Oper} {a : Act} {Q : Exit → Act → World → Prop} (hgd : o.guard = none) (S E : TypeId) (s x : Operand) (ho : o.op = .call { callee := .builtin .append, args := #[s, x], argTypes := #[S, S] })
    (i0 : TypeInfo) (z : Value) (k bytes : Nat) (hS : Try.prog.underlying S = some (.slice E)) (hi : Try.prog.info? E = some i0) (hz : i0.zero = some z) (hk : i0.size = k) (hby : i0.bytes = bytes) (hzs : z.cells.size = k) (hk0 : 0 < k) (hb16 : bytes ≤ 16)
    (base n : Nat) (v : Value) (vs : List Value) (hs : a.eval s = v) (hown : w.ownsRow base E k v n vs)
    (h : Hd) (us : List Value) (hx : a.eval x = .slice h.a h.n h.c) (hc : Cells k w h us) (hn : n ≤ 536870912) (hm : h.n ≤ 536870912) (hbase : base ≤ w.heap.size)
    (H : ∀ aa cap w', w'.ownsRow base E k (.slice aa (n + h.n) cap) (n + h.n) (vs ++ us) → w.grownBy w' v.ownBlock → ((Value.slice aa (n + h.n) cap).ownBlock = v.ownBlock ∨ (Value.slice aa (n + h.n) cap).ownBlock = some w.heap.size) → wpList Try.prog ops Q rest (a.put o.dst (.slice aa (n + h.n) cap)) w') :
    wpList Try.prog ops Q (o :: rest) a w := by
  refine wpList_plain hgd fun K hK => ?_
  obtain ⟨aa, cap, w', hr, h1, h2, h3⟩ := run_append_row w S o.type E i0 z k bytes hS hi hz hk hby hzs hk0 hb16 base n v vs hown h us hc hn hm hbase
  unfold Oper.wp execOp
  simp only [ho, resolve, invoke, builtin, Sem.run_bind, Sem.run_pure, Result.andThen_ok, List.map_toArray, List.map_cons, List.map_nil, hs, hx, hr]
  exact hK _ _ (H aa cap w' h1 h2 h3)
theorem step_append_row {w : World} {ops : Array Oper} {o : Oper} {a : Act} {K : Act → World → Prop} {Q : Exit → Act → World → Prop} {X : Prop} (hgd : o.guard = none) (S E : TypeId) (s x : Operand) (ho : o.op = .call { callee := .builtin .append, args := #[s, x], argTypes := #[S, S] })
    (i0 : TypeInfo) (z : Value) (k bytes : Nat) (hS : Try.prog.underlying S = some (.slice E)) (hi : Try.prog.info? E = some i0) (hz : i0.zero = some z) (hk : i0.size = k) (hby : i0.bytes = bytes) (hzs : z.cells.size = k) (hk0 : 0 < k) (hb16 : bytes ≤ 16)
    (base n : Nat) (v : Value) (vs : List Value) (hs : a.eval s = v) (hown : w.ownsRow base E k v n vs)
    (h : Hd) (us : List Value) (hx : a.eval x = .slice h.a h.n h.c) (hc : Cells k w h us) (hn : n ≤ 536870912) (hm : h.n ≤ 536870912) (hbase : base ≤ w.heap.size)
    (H : ∀ aa cap w', w'.ownsRow base E k (.slice aa (n + h.n) cap) (n + h.n) (vs ++ us) → w.grownBy w' v.ownBlock → ((Value.slice aa (n + h.n) cap).ownBlock = v.ownBlock ∨ (Value.slice aa (n + h.n) cap).ownBlock = some w.heap.size) → K (a.put o.dst (.slice aa (n + h.n) cap)) w') :
    if Region.wanted o (yielded ops a.tmps) = true then Oper.wp Try.prog o a w K Q else X := by
  have hw : Region.wanted o (yielded ops a.tmps) = true := by simp [Region.wanted, hgd]
  rw [if_pos hw]
  obtain ⟨aa, cap, w', hr, h1, h2, h3⟩ := run_append_row w S o.type E i0 z k bytes hS hi hz hk hby hzs hk0 hb16 base n v vs hown h us hc hn hm hbase
  unfold Oper.wp execOp
  simp only [ho, resolve, invoke, builtin, Sem.run_bind, Sem.run_pure, Result.andThen_ok, List.map_toArray, List.map_cons, List.map_nil, hs, hx, hr]
  exact H aa cap w' h1 h2 h3
/-- Bytes and whole numbers as cells. -/
def bys (ys : List Nat) : List Value := ys.map (fun y : Nat => Value.int .u8 (y : Int))
theorem bys_length (ys : List Nat) : (bys ys).length = ys.length := by simp [bys]
theorem bys_append (xs ys : List Nat) : bys (xs ++ ys) = bys xs ++ bys ys := by simp [bys]
theorem bys_one (ys : List Nat) : ∀ u ∈ bys ys, u.oneCell' = true := by
  intro u hu; simp only [bys, List.mem_map] at hu; obtain ⟨y, _, rfl⟩ := hu; rfl
def ints (l : List Int) : List Value := l.map (Value.int .i64)
theorem ints_length (l : List Int) : (ints l).length = l.length := by simp [ints]
theorem ints_append (l m : List Int) : ints (l ++ m) = ints l ++ ints m := by simp [ints]
theorem ints_one (l : List Int) : ∀ u ∈ ints l, u.oneCell' = true := by
  intro u hu; simp only [ints, List.mem_map] at hu; obtain ⟨y, _, rfl⟩ := hu; rfl
/-- A row in a block of its own that has just been laid. -/
theorem cells_new (k : Nat) (w : World) (cs : Array Value) (t : TypeId) (n c : Nat) (vs : List Value) (hcs : cs.toList = vs) (hl : vs.length = n * k) (hn : n ≤ c) (h1 : ∀ u ∈ vs, u.oneCell' = true) : Cells k (w.alloc (.cells cs t)) ⟨some ⟨w.heap.size, 0, none⟩, n, c⟩ vs := by
  refine ⟨hl, hn, fun e => (by cases e), h1, fun x hx _ => ?_⟩
  cases hx
  refine ⟨rfl, by simp, fun j u hj => ?_⟩
  have e : (w.alloc (.cells cs t)).heap[w.heap.size]? = some (.cells cs t (0, 0)) := heap_alloc_new _ _
  rw [Nat.zero_add]
  unfold World.cell?
  simp only
  rw [e]
  subst hcs
  simpa using hj
theorem Cells.at {k : Nat} {w : World} {h : Hd} {vs : List Value} (c : Cells k w h vs) {j : Nat} {u : Value} (hj : vs[j]? = some u) : ∃ b off, h.a = some ⟨b, off, none⟩ ∧ b < w.heap.size ∧ w.cell? ⟨b, off + j, none⟩ = some u := by
  have hl := c.len
  have hjl : j < vs.length := (List.getElem?_eq_some_iff.1 hj).1
  cases ha : h.a with
  | none => have := (c.abs ha).1; rw [this, Nat.zero_mul] at hl; omega
  | some x =>
    obtain ⟨h1, h2, h3⟩ := c.at' x ha (by rcases Nat.eq_zero_or_pos h.n with e | e; rw [e, Nat.zero_mul] at hl; omega; exact e)
    obtain ⟨b, off, sp⟩ := x
    simp only at h1 h2 h3
    subst h1
    exact ⟨b, off, rfl, h2, h3 j u hj⟩
theorem Keeps.cellS {X : Nat → Prop} {w w' : World} (h : Keeps X w w') {b off : Nat} {v : Value} (hX : ¬ X b) (hc : w.cell? ⟨b, off, none⟩ = some v) : w'.cell? ⟨b, off, none⟩ = some v := by
  have hb := World.block_lt_of_cell? w _ hc
  exact (World.cell?_of_block (w := w) (h.block b hb hX)).trans hc
theorem Keeps.weak {X Y : Nat → Prop} {w w' : World} (h : Keeps X w w') (hS : ∀ k, k < w.heap.size → X k → Y k) : Keeps Y w w' :=
  ⟨h.os, h.tape, h.output, h.size, fun k hk hn => h.block k hk (fun x => hn (hS k hk x))⟩
theorem own_kept {w w' : World} {B E k n : Nat} {v : Value} {xs : List Value} (h : w.ownsRow B E k v n xs) (hk : ∀ g, v.ownBlock = some g → w'.heap[g]? = w.heap[g]?) : w'.ownsRow B E k v n xs := by
  obtain ⟨h1, h2⟩ := h
  refine ⟨h1, ?_⟩
  rcases h2 with h2 | ⟨g, cap, cur, rfl, hg, hh, r⟩
  · exact Or.inl h2
  · exact Or.inr ⟨g, cap, cur, rfl, hg, (hk g rfl).trans hh, r⟩
theorem own_lt {w : World} {B n e k : Nat} {v : Value} {xs : List Value} (h : w.ownsRow B e k v n xs) : ∀ g, v.ownBlock = some g → B ≤ g ∧ g < w.heap.size := by
  intro g hg
  rcases h.2 with ⟨rfl, _⟩ | ⟨g, cap, cur, rfl, hb, hh, _⟩
  · cases hg
  · cases hg
    exact ⟨hb, lt_of_block hh⟩
end Go.Proofs.Ytcdhpidglchinaa
