/- Texts of a layer, one behind the other. -/
import Derived.Test.YtpmoknnhgginjaaDoorProg
import Derived.WalkKit
import Derived.Laws.BitsAllLaws
import Derived.Laws.CopyOwn
import Derived.Laws.MakeOwn
import Derived.Outline
import Derived.Maps.AppendAt
import Derived.WalkLawsBesides
import Derived.OneCell
import Derived.OwnWalk
import Derived.Laws.AppendOwnNone
import Derived.Lib.Hide
import Derived.Lib.SlBytesConst
import Derived.StillTailTactics
import Derived.BigQuiet
import Derived.BigRegion
import Derived.LoopTactic
import Derived.RegionTactic
import Derived.Deep.DeepMust
import Derived.Deep.QuietTactic
import Derived.Deep.LoopGhost
import Derived.Deep.OwnRows
/- Bytes in memory: what a slice of them leads to, rows of the call's own, append. -/
namespace Go.Proofs.YtpmoknnhgginjaaDoor.Lzz
open Go.RowKit
set_option linter.unusedVariables false

theorem wrap_i64 (n : Int) (h0 : -9223372036854775808 ≤ n) (h1 : n ≤ 9223372036854775807) : IntKind.i64.wrap n = n := by
  simp [IntKind.wrap, IntKind.bits, IntKind.signed]
  omega
theorem wrap_i32 (n : Int) (h0 : -2147483648 ≤ n) (h1 : n ≤ 2147483647) : IntKind.i32.wrap n = n := by
  simp [IntKind.wrap, IntKind.bits, IntKind.signed]
  omega
/-- Bytes that a slice value leads to. -/
def Bytes (w : World) (a : Option Addr) (n : Nat) (ys : List Nat) : Prop :=
  ys.length = n ∧ (∀ y ∈ ys, y < 256) ∧ (0 < n → ∃ b off, a = some ⟨b, off, none⟩ ∧ ∀ (j y : Nat), ys[j]? = some y → w.cell? ⟨b, off + j, none⟩ = some (.int .u8 (y : Int)))

theorem Bytes.later {w w' : World} {a : Option Addr} {n : Nat} {ys : List Nat} (h : Bytes w a n ys) (hk : ∀ k, k < w.heap.size → w'.heap[k]? = w.heap[k]?) : Bytes w' a n ys := by
  obtain ⟨h1, h2, h3⟩ := h
  refine ⟨h1, h2, fun hp => ?_⟩
  obtain ⟨b, off, e, hc⟩ := h3 hp
  exact ⟨b, off, e, fun j y hj => (World.cell?_of_block (w := w) (hk _ (World.block_lt_of_cell? w _ (hc j y hj)))).trans (hc j y hj)⟩
theorem Bytes.at {w : World} {a : Option Addr} {n i : Nat} {ys : List Nat} (h : Bytes w a n ys) (hi : i < n) : ∃ b off y, a = some ⟨b, off, none⟩ ∧ ys[i]? = some y ∧ y < 256 ∧ w.cell? ⟨b, off + i, none⟩ = some (.int .u8 (y : Int)) := by
  obtain ⟨h1, h2, h3⟩ := h
  obtain ⟨b, off, e, hc⟩ := h3 (by omega)
  have hl : i < ys.length := by omega
  exact ⟨b, off, ys[i], e, List.getElem?_eq_getElem hl, h2 _ (List.getElem_mem hl), hc i _ (List.getElem?_eq_getElem hl)⟩
theorem take_more {ys : List Nat} {i y : Nat} (h : ys[i]? = some y) : ys.take (i + 1) = ys.take i ++ [y] := by
  rw [List.take_add_one, h]; rfl
theorem take_lt {ys : List Nat} (h : ∀ y ∈ ys, y < 256) (i : Nat) : ∀ y ∈ ys.take i, y < 256 := fun y hy => h y (List.mem_of_mem_take hy)

theorem Bytes.drop {w : World} {a : Option Addr} {r c k : Nat} {zs : List Nat} (h : Bytes w a r zs) (hk : k ≤ r) (hc : r ≤ c) : Bytes w (if c = k then a else a.map (fun x => x.add k)) (r - k) (zs.drop k) := by
  obtain ⟨h1, h2, h3⟩ := h
  refine ⟨by simp [h1], fun y hy => h2 y (List.mem_of_mem_drop hy), fun hp => ?_⟩
  obtain ⟨b, off, rfl, hcell⟩ := h3 (by omega)
  rw [if_neg (by omega)]
  refine ⟨b, off + k, ?_, fun j y hj => ?_⟩
  · simp only [Option.map_some]
    congr 1
    unfold Addr.add
    split
    · rename_i h; subst h; rfl
    · rfl
  · rw [List.getElem?_drop] at hj
    rw [Nat.add_assoc]
    exact hcell _ _ hj

theorem info5 : (Tryd.prog.info? 5).map (fun i => (i.zero, i.size, i.bytes)) = some (some (.int .u8 0), 1, 1) := by kernel_rfl
/-- Bytes as cells. -/
def bys (ys : List Nat) : List Value := ys.map (fun y : Nat => Value.int .u8 (y : Int))
theorem bys_length (ys : List Nat) : (bys ys).length = ys.length := by simp [bys]
theorem bys_append (xs ys : List Nat) : bys (xs ++ ys) = bys xs ++ bys ys := by simp [bys]
theorem add_spot (b off j : Nat) : ((⟨b, off, none⟩ : Addr).add j) = ⟨b, off + j, none⟩ := by
  unfold Addr.add
  split
  · rename_i h; subst h; rfl
  · rfl

theorem own_kept {w w' : World} {B n : Nat} {v : Value} {xs : List Value} (h : w.ownsRow B 5 1 v n xs) (hk : ∀ k, v.ownBlock = some k → w'.heap[k]? = w.heap[k]?) : w'.ownsRow B 5 1 v n xs := by
  obtain ⟨h1, h2⟩ := h
  refine ⟨h1, ?_⟩
  rcases h2 with h2 | ⟨g, cap, cur, rfl, hg, hh, r⟩
  · exact Or.inl h2
  · exact Or.inr ⟨g, cap, cur, rfl, hg, (hk g rfl).trans hh, r⟩

/-- append of bytes to a row of the call's own, as one step. -/
theorem run_append_text (w : World) (ty : TypeId) (base n : Nat) (v : Value) (xs : List Nat) (hown : w.ownsRow base 5 1 v n (bys xs)) (ad : Option Addr) (m c : Nat) (ds : List Nat) (hb : Bytes w ad m ds) (hc : ad = none → m = 0 ∧ c = 0) (hn : n ≤ 33554432) (hm : m ≤ 33554432) (hbase : base ≤ w.heap.size) :
    ∃ aa cap w', (Builtin.append_ #[26, 26] ty #[v, .slice ad m c]).run Tryd.prog w = .ok (.slice aa (n + m) cap) w' ∧
      w'.ownsRow base 5 1 (.slice aa (n + m) cap) (n + m) (bys (xs ++ ds)) ∧ w.grownBy w' v.ownBlock ∧ ((Value.slice aa (n + m) cap).ownBlock = v.ownBlock ∨ (Value.slice aa (n + m) cap).ownBlock = some w.heap.size) := by
  obtain ⟨i0, hi, hz0, hz1, hz2⟩ := info_parts info5
  obtain ⟨hl, hby, hcell⟩ := hb
  cases ad with
  | none =>
    obtain ⟨rfl, rfl⟩ := hc rfl
    obtain rfl : ds = [] := List.eq_nil_of_length_eq_zero hl
    have hr := run_append_owned_none (P := Tryd.prog) (w := w) base 26 ty 5 i0 1 Tryd.underlying26 hi _ _ _ hown
    have hv : ∃ aa cap, v = .slice aa n cap := by
      rcases hown.2 with ⟨e, e2⟩ | ⟨g, cap, _, e, _⟩
      · exact ⟨none, 0, by rw [e, e2]⟩
      · exact ⟨_, _, e⟩
    obtain ⟨aa, cap, rfl⟩ := hv
    refine ⟨aa, cap, w, hr, ?_, ⟨rfl, rfl, rfl, Nat.le_refl _, fun _ _ _ => rfl⟩, Or.inl rfl⟩
    rw [List.append_nil]
    exact hown
  | some ad =>
    obtain ⟨v', w', hr, h1, h2, h4, h5⟩ := run_append_own_at (P := Tryd.prog) w base 26 ty 5 i0 (.int .u8 0) 1 1 Tryd.underlying26 hi hz0 hz1 hz2 rfl (by decide) _ n _ hown ad m c (bys ds) (by rw [bys_length]; omega)
      (by
        intro j u hj
        unfold bys at hj
        rw [List.getElem?_map] at hj
        have hjl : j < ds.length := by
          rcases Nat.lt_or_ge j ds.length with h | h
          · exact h
          · rw [List.getElem?_eq_none h] at hj; cases hj
        obtain ⟨b, off, e, hcl⟩ := hcell (by omega)
        cases e
        rw [List.getElem?_eq_getElem hjl] at hj
        rw [add_spot, hcl j _ (List.getElem?_eq_getElem hjl)]
        simpa using hj)
      (by intro u hu; unfold bys at hu; simp only [List.mem_map] at hu; obtain ⟨y, _, rfl⟩ := hu; rfl) (by unfold maxLen; omega) (by omega) hbase
    have hv : ∃ aa cap, v' = .slice aa (n + m) cap := by
      rcases h1.2 with ⟨e, e2⟩ | ⟨g, cap, _, e, _⟩
      · exact ⟨none, 0, by rw [e, e2]⟩
      · exact ⟨_, _, e⟩
    obtain ⟨aa, cap, rfl⟩ := hv
    rw [← bys_append] at h1
    exact ⟨aa, cap, w', hr, h1, h2, h5⟩

theorem wpList_append_text {w : World} {ops : Array Oper} {rest : List Oper} {o : Oper} {a : Act} {Q : Exit → Act → World → Prop} (hgd : o.guard = none) (s x : Operand) (ho : o.op = .call { callee := .builtin .append, args := #[s, x], argTypes := #[26, 26] })
    (base n : Nat) (v : Value) (xs : List Nat) (hs : a.eval s = v) (hown : w.ownsRow base 5 1 v n (bys xs))
    (ad : Option Addr) (m c : Nat) (ds : List Nat) (hx : a.eval x = .slice ad m c) (hb : Bytes w ad m ds) (hc : ad = none → m = 0 ∧ c = 0) (hn : n ≤ 33554432) (hm : m ≤ 33554432) (hbase : base ≤ w.heap.size)
    (h : ∀ aa cap w', w'.ownsRow base 5 1 (.slice aa (n + m) cap) (n + m) (bys (xs ++ ds)) → w.grownBy w' v.ownBlock → ((Value.slice aa (n + m) cap).ownBlock = v.ownBlock ∨ (Value.slice aa (n + m) cap).ownBlock = some w.heap.size) → wpList Tryd.prog ops Q rest (a.put o.dst (.slice aa (n + m) cap)) w') :
    wpList Tryd.prog ops Q (o :: rest) a w := by
  refine wpList_plain hgd fun K hK => ?_
  obtain ⟨aa, cap, w', hr, h1, h2, h3⟩ := run_append_text w o.type base n v xs hown ad m c ds hb hc hn hm hbase
  unfold Oper.wp execOp
  simp only [ho, resolve, invoke, builtin, Sem.run_bind, Sem.run_pure, Result.andThen_ok, List.map_toArray, List.map_cons, List.map_nil, hs, hx, hr]
  exact hK _ _ (h aa cap w' h1 h2 h3)

/-- Bytes of the call's own, read. -/
theorem bytes_of_own {w : World} {B n c : Nat} {aa : Option Addr} {ds : List Nat} (h : w.ownsRow B 5 1 (.slice aa n c) n (bys ds)) (hb : ∀ y ∈ ds, y < 256) : Bytes w aa n ds ∧ n ≤ c ∧ (aa = none → n = 0 ∧ c = 0) := by
  obtain ⟨hl, h2⟩ := h
  rw [bys_length] at hl
  refine ⟨⟨by omega, hb, fun hp => ?_⟩, ?_⟩
  · rcases h2 with ⟨_, e2⟩ | ⟨g, cap, cur, e, hB, hh, p1, p2, p3, p4⟩
    · omega
    · cases e
      refine ⟨g, 0, rfl, fun j y hj => ?_⟩
      have hj2 : (bys ds)[j]? = (cur.toList.take (n * 1))[j]? := by rw [p4]
      have hjl : j < n := by have := (List.getElem?_eq_some_iff.1 hj).1; omega
      unfold bys at hj2
      rw [List.getElem?_take_of_lt (by omega), List.getElem?_map, hj] at hj2
      have hj3 : cur[j]? = some (.int .u8 (y : Int)) := by simpa using hj2.symm
      simp [World.cell?, hh, hj3]
  · rcases h2 with ⟨e, e2⟩ | ⟨g, cap, cur, e, hB, hh, p1, p2, p3, p4⟩
    · cases e
      exact ⟨Nat.le_refl _, fun _ => ⟨rfl, rfl⟩⟩
    · cases e
      exact ⟨p1, fun h => by cases h⟩

/-- What a call tells: memory of its own. -/
def Told (w : World) (zs : List Nat) (e : Ending) (w' : World) : Prop :=
  ∃ aa c, e = .returned (.slice aa zs.length c) ∧ w'.ownsRow w.heap.size 5 1 (.slice aa zs.length c) zs.length (bys zs) ∧ Below w.heap.size w w'

theorem grown_below {B : Nat} {w w1 w2 : World} {row : Option Nat} (hB : B ≤ w.heap.size) (h : Below B w w1) (hg : w1.grownBy w2 row) (hv : ∀ k, row = some k → B ≤ k) : Below B w w2 :=
  h.trans ⟨hg.os, hg.tape, hg.output, hg.size, fun k hk => hg.block k (Nat.lt_of_lt_of_le hk (Nat.le_trans hB h.size)) (fun e => by have := hv k e.symm; omega)⟩

theorem Bytes.below {w w' : World} {a : Option Addr} {n : Nat} {ys : List Nat} (h : Bytes w a n ys) (hb : Below w.heap.size w w') : Bytes w' a n ys := h.later hb.block
theorem below_more {B : Nat} {w w1 w2 : World} (h : Below B w w1) (h2 : Below w1.heap.size w1 w2) (hB : B ≤ w.heap.size) : Below B w w2 :=
  h.trans ⟨h2.os, h2.tape, h2.output, h2.size, fun k hk => h2.block k (Nat.lt_of_lt_of_le hk (Nat.le_trans hB h.size))⟩

theorem lit_bytes (w : World) (cs : Array Value) (X : List Nat) (fr : Nat × Nat) (hcs : cs.toList = bys X) (hX : ∀ x ∈ X, x < 256) : Bytes (w.alloc (.cells cs 5 fr)) (some ⟨w.heap.size, 0, none⟩) X.length X := by
  refine ⟨rfl, hX, fun _ => ⟨_, _, rfl, fun j y hj => ?_⟩⟩
  have h2 : cs[j]? = some (.int .u8 (y : Int)) := by
    rw [← Array.getElem?_toList, hcs]
    unfold bys
    rw [List.getElem?_map, hj]
    rfl
  rw [World.cell?_alloc_mark, ← h2, Nat.zero_add]
/-- Bytes that came in. -/
def Arg (w : World) (a : Option Addr) (n c : Nat) (ys : List Nat) : Prop := Bytes w a n ys ∧ n ≤ c ∧ (a = none → n = 0 ∧ c = 0)
theorem Arg.below {w w' : World} {a : Option Addr} {n c : Nat} {ys : List Nat} (h : Arg w a n c ys) (hb : Below w.heap.size w w') : Arg w' a n c ys := ⟨h.1.below hb, h.2⟩
theorem Told.arg {w w' : World} {zs : List Nat} {e : Ending} (h : Told w zs e w') (hz : ∀ z ∈ zs, z < 256) : ∃ aa c, e = .returned (.slice aa zs.length c) ∧ Arg w' aa zs.length c zs ∧ Below w.heap.size w w' := by
  obtain ⟨aa, c, he, hown, hb⟩ := h
  have k := bytes_of_own hown hz
  exact ⟨aa, c, he, ⟨k.1, k.2⟩, hb⟩
theorem both_lt {xs ys : List Nat} (hx : ∀ x ∈ xs, x < 256) (hy : ∀ y ∈ ys, y < 256) : ∀ z ∈ xs ++ ys, z < 256 := by
  intro z hz
  rcases List.mem_append.1 hz with h | h
  · exact hx z h
  · exact hy z h

theorem nil_arg (w : World) : Arg w none 0 0 [] := ⟨⟨rfl, fun _ h => absurd h List.not_mem_nil, fun h => absurd h (Nat.lt_irrefl 0)⟩, Nat.le_refl _, fun _ => ⟨rfl, rfl⟩⟩
theorem Arg.take {w : World} {a : Option Addr} {n c k : Nat} {ys : List Nat} (h : Arg w a n c ys) (hk : k ≤ n) : Arg w a k c (ys.take k) := by
  obtain ⟨⟨h1, h2, h3⟩, h4, h5⟩ := h
  refine ⟨⟨by rw [List.length_take]; omega, take_lt h2 k, fun hp => ?_⟩, by omega, fun e => ⟨by have := (h5 e).1; omega, (h5 e).2⟩⟩
  obtain ⟨b, off, e, hc⟩ := h3 (by omega)
  exact ⟨b, off, e, fun j y hj => hc j y (by
    rw [List.getElem?_take] at hj
    split at hj
    · exact hj
    · cases hj)⟩
theorem Arg.drop {w : World} {a : Option Addr} {n c k : Nat} {ys : List Nat} (h : Arg w a n c ys) (hk : k ≤ n) : Arg w (if c = k then a else a.map (fun x => x.add k)) (n - k) (c - k) (ys.drop k) := by
  refine ⟨h.1.drop hk h.2.1, by have := h.2.1; omega, fun e => ?_⟩
  split at e
  · have := h.2.2 e; omega
  · cases a with
    | none => have := h.2.2 rfl; omega
    | some a => cases e

/-- A row in memory of which the first i places hold what they should. -/
def Part (w : World) (g n i : Nat) (zs : List Nat) : Prop :=
  ∃ cur : Array Value, w.heap[g]? = some (.cells cur 5 (0, 0)) ∧ n ≤ cur.size ∧ ∀ j y, j < i → zs[j]? = some y → cur[j]? = some (.int .u8 (y : Int))
theorem Part.cell {w : World} {g n i j : Nat} {zs : List Nat} (h : Part w g n i zs) (hj : j < n) : ∃ v, w.cell? ⟨g, j, none⟩ = some v ∧ w.frozen? ⟨g, j, none⟩ = false := by
  obtain ⟨cur, h1, h2, h3⟩ := h
  exact ⟨cur[j]'(by omega), by simp [World.cell?, h1, show j < cur.size by omega], by simp [World.frozen?, h1]⟩
theorem Part.set {w : World} {g n i y : Nat} {zs : List Nat} (h : Part w g n i zs) (hi : i < n) (hy : zs[i]? = some y) : Part (w.setCell ⟨g, i, none⟩ (.int .u8 (y : Int))) g n (i + 1) zs := by
  obtain ⟨cur, h1, h2, h3⟩ := h
  refine ⟨cur.setIfInBounds i (.int .u8 (y : Int)), ?_, by simpa using h2, fun j z hj hz => ?_⟩
  · simp only [World.setCell, Array.getElem?_modify, h1]
    simp
  · by_cases e : i = j
    · subst e
      rw [hy] at hz
      cases hz
      rw [Array.getElem?_setIfInBounds_self_of_lt (by omega)]
    · rw [Array.getElem?_setIfInBounds_ne e]
      exact h3 j z (by omega) hz
theorem Part.bytes {w : World} {g n : Nat} {zs : List Nat} (h : Part w g n n zs) (hl : zs.length = n) (hz : ∀ z ∈ zs, z < 256) : Arg w (some ⟨g, 0, none⟩) n n zs := by
  obtain ⟨cur, h1, h2, h3⟩ := h
  refine ⟨⟨hl, hz, fun hp => ⟨g, 0, rfl, fun j y hj => ?_⟩⟩, Nat.le_refl _, fun e => by cases e⟩
  have hjn : j < n := by have := (List.getElem?_eq_some_iff.1 hj).1; omega
  have k := h3 j y hjn hj
  simp [World.cell?, h1, k]
theorem Part.lt {w : World} {g n i : Nat} {zs : List Nat} (h : Part w g n i zs) : g < w.heap.size := by
  obtain ⟨cur, h1, _⟩ := h
  exact lt_of_block h1
theorem Part.below {w w' : World} {g n i : Nat} {zs : List Nat} (h : Part w g n i zs) (hb : Below w.heap.size w w') : Part w' g n i zs := by
  have hl := h.lt
  obtain ⟨cur, h1, h2⟩ := h
  exact ⟨cur, (hb.block g hl).trans h1, h2⟩
theorem below_set {B : Nat} {w w1 : World} (h : Below B w w1) {g i : Nat} (hg : B ≤ g) (v : Value) : Below B w (w1.setCell ⟨g, i, none⟩ v) :=
  ⟨h.os, h.tape, h.output, by simp [World.setCell]; exact h.size, fun k hk => (Below.heap_setCell _ _ _ _ (by simp only; omega)).trans (h.block k hk)⟩

theorem Part.turn {w : World} {g n i y : Nat} {zs : List Nat} (h : Part w g n n zs) (hi : i < n) (hl : zs.length = n) : Part (w.setCell ⟨g, i, none⟩ (.int .u8 (y : Int))) g n n (zs.set i y) := by
  obtain ⟨cur, h1, h2, h3⟩ := h
  refine ⟨cur.setIfInBounds i (.int .u8 (y : Int)), ?_, by simpa using h2, fun j z hj hz => ?_⟩
  · simp only [World.setCell, Array.getElem?_modify, h1]
    simp
  · by_cases e : i = j
    · subst e
      rw [List.getElem?_set_self (by omega)] at hz
      cases hz
      rw [Array.getElem?_setIfInBounds_self_of_lt (by omega)]
    · rw [List.getElem?_set_ne e] at hz
      rw [Array.getElem?_setIfInBounds_ne e]
      exact h3 j z hj hz
theorem own_part {w : World} {B n c : Nat} {aa : Option Addr} {ds : List Nat} (h : w.ownsRow B 5 1 (.slice aa n c) n (bys ds)) (hp : 0 < n) : ∃ g, aa = some ⟨g, 0, none⟩ ∧ B ≤ g ∧ n ≤ c ∧ Part w g n n ds := by
  obtain ⟨hl, h2⟩ := h
  rcases h2 with ⟨_, e2⟩ | ⟨g, cap, cur, e, hB, hh, p1, p2, p3, p4⟩
  · omega
  · cases e
    refine ⟨g, rfl, hB, p1, cur, hh, by omega, fun j y hj hy => ?_⟩
    have hj2 : (bys ds)[j]? = (cur.toList.take (n * 1))[j]? := by rw [p4]
    unfold bys at hj2
    rw [List.getElem?_take_of_lt (by omega), List.getElem?_map, hy] at hj2
    simpa using hj2.symm

theorem block_set {w : World} {R i : Nat} {c : Array Value} {t : TypeId} {f : Nat × Nat} (h : w.heap[R]? = some (.cells c t f)) (u : Value) :
    (w.setCell ⟨R, i, none⟩ u).heap[R]? = some (.cells (c.setIfInBounds i u) t f) := by
  simp [World.setCell, h, Array.getElem?_modify]
theorem lt_of_block {w : World} {k : Nat} {o : Obj} (h : w.heap[k]? = some o) : k < w.heap.size := by
  rcases Nat.lt_or_ge k w.heap.size with hlt | hge
  · exact hlt
  · rw [Array.getElem?_eq_none hge] at h; cases h

theorem own_lt2 {w : World} {B n e k : Nat} {v : Value} {xs : List Value} (h : w.ownsRow B e k v n xs) : ∀ g, v.ownBlock = some g → B ≤ g ∧ g < w.heap.size := by
  intro g hg
  rcases h.2 with ⟨rfl, _⟩ | ⟨g, cap, cur, rfl, hb, hh, _⟩
  · cases hg
  · cases hg
    exact ⟨hb, lt_of_block hh⟩
theorem own_kept2 {w w' : World} {B n e k : Nat} {v : Value} {xs : List Value} (h : w.ownsRow B e k v n xs) (hk : ∀ g, v.ownBlock = some g → w'.heap[g]? = w.heap[g]?) : w'.ownsRow B e k v n xs := by
  obtain ⟨h1, h2⟩ := h
  refine ⟨h1, ?_⟩
  rcases h2 with h2 | ⟨g, cap, cur, rfl, hg, hh, r⟩
  · exact Or.inl h2
  · exact Or.inr ⟨g, cap, cur, rfl, hg, (hk g rfl).trans hh, r⟩

/-- Bytes, read as a text. -/
def strOf (ys : List Nat) : ByteArray := strOfNums (ys.map (fun y : Nat => (y : Int)))
theorem conv_arg {w : World} {a : Option Addr} {n c : Nat} {ys : List Nat} (h : Arg w a n c ys) : (convert 26 9 (.slice a n c)).run Tryd.prog w = .ok (.string (strOf ys)) w := by
  obtain ⟨⟨hl, hb, hc⟩, hcp, hz⟩ := h
  unfold strOf
  cases a with
  | none =>
    obtain ⟨rfl, rfl⟩ := hz rfl
    obtain rfl : ys = [] := List.eq_nil_of_length_eq_zero hl
    exact run_convert_bytes_nil w 26 5 Tryd.underlying26 Tryd.underlying5 0 0 9 Tryd.underlying9
  | some x =>
    by_cases hn : n = 0
    · subst hn
      obtain rfl : ys = [] := List.eq_nil_of_length_eq_zero hl
      have h0 : (loadCells x 0).run Tryd.prog w = .ok (([] : List Int).map (Value.int .u8)).toArray w := run_loadCells_list (P := Tryd.prog) w x [] (fun j v hj => by simp at hj)
      rw [run_convert_bytes_string w 26 9 5 _ 0 c Tryd.underlying26 Tryd.underlying5 Tryd.underlying9, run_bytesToString w _ 0 c [] h0]
      rfl
    · obtain ⟨b, off, e, hcell⟩ := hc (by omega)
      cases e
      refine run_convert_bytes_arg w 26 5 Tryd.underlying26 Tryd.underlying5 b off n c _ (by simpa using hl) (fun i hi => ?_) 9 Tryd.underlying9
      have hil : i < ys.length := by omega
      rw [hcell i _ (List.getElem?_eq_getElem hil), List.getD_eq_getElem?_getD, List.getElem?_map, List.getElem?_eq_getElem hil]
      rfl
theorem strOf_inj {xs ys : List Nat} (hx : ∀ x ∈ xs, x < 256) (hy : ∀ y ∈ ys, y < 256) (h : strOf xs = strOf ys) : xs = ys := by
  have h1 : (strOf xs).data.toList = (strOf ys).data.toList := by rw [h]
  unfold strOf at h1
  rw [strOfNums_data, strOfNums_data, List.map_map, List.map_map] at h1
  have key : ∀ (xs ys : List Nat), (∀ x ∈ xs, x < 256) → (∀ y ∈ ys, y < 256) → xs.map ((fun n : Int => UInt8.ofNat n.toNat) ∘ fun y : Nat => (y : Int)) = ys.map ((fun n : Int => UInt8.ofNat n.toNat) ∘ fun y : Nat => (y : Int)) → xs = ys := by
    intro xs
    induction xs with
    | nil =>
      intro ys _ _ h
      cases ys with
      | nil => rfl
      | cons y ys => simp at h
    | cons x xs ih =>
      intro ys hx hy h
      cases ys with
      | nil => simp at h
      | cons y ys =>
        simp only [List.map_cons, List.cons.injEq, Function.comp, Int.toNat_natCast] at h
        have e1 : x = y := by
          have e := congrArg UInt8.toNat h.1
          have := hx x List.mem_cons_self
          have := hy y List.mem_cons_self
          simp at e
          omega
        rw [e1, ih ys (fun x h => hx x (List.mem_cons_of_mem _ h)) (fun y h => hy y (List.mem_cons_of_mem _ h)) h.2]
  exact key xs ys hx hy h1
end Go.Proofs.YtpmoknnhgginjaaDoor.Lzz

/- Tokens in memory; what they bring, as plain data. -/
namespace Go.Proofs.YtpmoknnhgginjaaDoor.Lzz
open Go.RowKit
set_option linter.unusedVariables false

/-- A token. -/
structure Tok where
  L : Int
  D : Int
  X : Nat

/-- One of them in memory. -/
def OneTok (w : World) (b o : Nat) (t : Tok) : Prop :=
  w.cell? ⟨b, o, none⟩ = some (.int .i64 t.L) ∧ w.cell? ⟨b, o + 1, none⟩ = some (.int .i64 t.D) ∧ w.cell? ⟨b, o + 2, none⟩ = some (.int .u8 (t.X : Nat))
/-- Numbers that a token may bear. -/
def Fits (t : Tok) : Prop := (-9223372036854775808 ≤ t.L ∧ t.L ≤ 9223372036854775807) ∧ (-9223372036854775808 ≤ t.D ∧ t.D ≤ 9223372036854775807) ∧ t.X < 256
/-- All of them in memory. -/
def Toks (w : World) (a : Option Addr) (n : Nat) (ts : List Tok) : Prop :=
  ts.length = n ∧ (∀ t ∈ ts, Fits t) ∧ (0 < n → ∃ b off, a = some ⟨b, off, none⟩ ∧ ∀ (i : Nat) (t : Tok), ts[i]? = some t → OneTok w b (off + i * 3) t)
theorem OneTok.up {w w' : World} {b o : Nat} {t : Tok} (h : OneTok w b o t) (hk : b < w.heap.size → w'.heap[b]? = w.heap[b]?) : OneTok w' b o t := by
  obtain ⟨c0, c1, c2⟩ := h
  have hb := hk (World.block_lt_of_cell? w _ c0)
  exact ⟨(World.cell?_of_block (w := w) hb).trans c0, (World.cell?_of_block (w := w) hb).trans c1, (World.cell?_of_block (w := w) hb).trans c2⟩
theorem Toks.later {w w' : World} {a : Option Addr} {n : Nat} {ts : List Tok} (h : Toks w a n ts) (hk : ∀ k, k < w.heap.size → w'.heap[k]? = w.heap[k]?) : Toks w' a n ts := by
  obtain ⟨h1, h2, h3⟩ := h
  refine ⟨h1, h2, fun hp => ?_⟩
  obtain ⟨b, off, e, hc⟩ := h3 hp
  exact ⟨b, off, e, fun i t ht => (hc i t ht).up (hk b)⟩
theorem Toks.below {w w' : World} {a : Option Addr} {n : Nat} {ts : List Tok} (h : Toks w a n ts) (hb : Below w.heap.size w w') : Toks w' a n ts := h.later hb.block
theorem Toks.at {w : World} {a : Option Addr} {n i : Nat} {ts : List Tok} (h : Toks w a n ts) (hi : i < n) : ∃ b off t, a = some ⟨b, off, none⟩ ∧ ts[i]? = some t ∧ Fits t ∧ OneTok w b (off + i * 3) t := by
  obtain ⟨h1, h2, h3⟩ := h
  obtain ⟨b, off, e, hc⟩ := h3 (by omega)
  have hl : i < ts.length := by omega
  exact ⟨b, off, ts[i], e, List.getElem?_eq_getElem hl, h2 _ (List.getElem_mem hl), hc i _ (List.getElem?_eq_getElem hl)⟩
theorem drop_cons {α : Type} {ys : List α} {i : Nat} {y : α} (h : ys[i]? = some y) : ys.drop i = y :: ys.drop (i + 1) := by
  obtain ⟨hl, rfl⟩ := List.getElem?_eq_some_iff.1 h
  exact List.drop_eq_getElem_cons hl

/-- May a token stand behind so many bytes? -/
def may (t : Tok) (n : Nat) : Bool := decide (t.L = 0 ∨ (3 ≤ t.L ∧ t.L ≤ 258 ∧ 1 ≤ t.D ∧ t.D ≤ 32768 ∧ t.D ≤ n))
/-- So many bytes more, each the one that stands d ahead. -/
def copied (d : Nat) : Nat → List Nat → List Nat
  | 0, out => out
  | k + 1, out => copied d k out ++ [(copied d k out).getD ((copied d k out).length - d) 0]
/-- What a token brings. -/
def brought (t : Tok) (out : List Nat) : List Nat := if t.L = 0 then out ++ [t.X] else copied t.D.toNat t.L.toNat out
/-- How many bytes a token brings. -/
def wide (t : Tok) : Nat := if t.L = 0 then 1 else t.L.toNat
/-- What tokens bring, behind others, up to most bytes. -/
def brings (most : Int) : List Nat → List Tok → Int × List Nat
  | out, [] => (0, out)
  | out, t :: ts => if may t out.length = false then (22, []) else if most < (out.length + wide t : Nat) then (24, []) else brings most (brought t out) ts
theorem copied_length (d k : Nat) (out : List Nat) : (copied d k out).length = out.length + k := by
  induction k with
  | zero => rfl
  | succ k ih => simp only [copied, List.length_append, List.length_cons, List.length_nil, ih]; omega
theorem brought_length (t : Tok) (out : List Nat) : (brought t out).length = out.length + wide t := by
  unfold brought wide
  split
  · simp
  · rw [copied_length]
theorem copied_lt (d k : Nat) (out : List Nat) (h : ∀ y ∈ out, y < 256) : ∀ y ∈ copied d k out, y < 256 := by
  induction k with
  | zero => exact h
  | succ k ih =>
    intro y hy
    rw [copied, List.mem_append, List.mem_singleton] at hy
    rcases hy with hy | rfl
    · exact ih y hy
    · rw [List.getD_eq_getElem?_getD]
      cases hz : (copied d k out)[(copied d k out).length - d]? with
      | none => simp
      | some z => exact ih z (List.mem_of_getElem? hz)
theorem brought_lt (t : Tok) (out : List Nat) (h : ∀ y ∈ out, y < 256) (ht : t.X < 256) : ∀ y ∈ brought t out, y < 256 := by
  unfold brought
  split
  · intro y hy
    rw [List.mem_append, List.mem_singleton] at hy
    rcases hy with hy | rfl
    · exact h y hy
    · exact ht
  · exact copied_lt _ _ _ h
theorem may_wide {t : Tok} {n : Nat} (h : may t n = true) : 1 ≤ wide t ∧ wide t ≤ 258 := by
  unfold may at h
  simp only [decide_eq_true_eq] at h
  unfold wide
  split <;> omega
theorem brings_nil (most : Int) (out : List Nat) : brings most out [] = (0, out) := rfl
theorem brings_cons (most : Int) (out : List Nat) (t : Tok) (ts : List Tok) : brings most out (t :: ts) = if may t out.length = false then (22, []) else if most < (out.length + wide t : Nat) then (24, []) else brings most (brought t out) ts := rfl
theorem brings_step {most : Int} {out : List Nat} {ts : List Tok} {i : Nat} {t : Tok} (h : ts[i]? = some t) : brings most out (ts.drop i) = if may t out.length = false then (22, []) else if most < (out.length + wide t : Nat) then (24, []) else brings most (brought t out) (ts.drop (i + 1)) := by
  rw [drop_cons h, brings_cons]
theorem brings_lt (most : Int) (out : List Nat) (ts : List Tok) (h : ∀ y ∈ out, y < 256) (ht : ∀ t ∈ ts, t.X < 256) : ∀ y ∈ (brings most out ts).2, y < 256 := by
  induction ts generalizing out with
  | nil => exact h
  | cons t ts ih =>
    rw [brings_cons]
    split
    · intro y hy; cases hy
    · split
      · intro y hy; cases hy
      · exact ih _ (brought_lt t out h (ht t List.mem_cons_self)) (fun t h => ht t (List.mem_cons_of_mem _ h))
theorem brings_err (most : Int) (out : List Nat) (ts : List Tok) : (brings most out ts).1 = 0 ∨ ((brings most out ts).1 = 22 ∨ (brings most out ts).1 = 24) ∧ (brings most out ts).2 = [] := by
  induction ts generalizing out with
  | nil => exact Or.inl rfl
  | cons t ts ih =>
    rw [brings_cons]
    split
    · exact Or.inr ⟨Or.inl rfl, rfl⟩
    · split
      · exact Or.inr ⟨Or.inr rfl, rfl⟩
      · exact ih _
theorem brings_len (most : Int) (out : List Nat) (ts : List Tok) : (brings most out ts).2.length ≤ out.length + 258 * ts.length := by
  induction ts generalizing out with
  | nil => exact Nat.le_add_right _ _
  | cons t ts ih =>
    rw [brings_cons]
    split
    · simp
    · rename_i hm
      split
      · simp
      · have h1 := ih (brought t out)
        have h2 := may_wide (t := t) (n := out.length) (by simpa using hm)
        rw [brought_length] at h1
        rw [List.length_cons]
        omega
end Go.Proofs.YtpmoknnhgginjaaDoor.Lzz

/- The contract of stands. -/
namespace Go.Proofs.YtpmoknnhgginjaaDoor.Lzz
open Go.RowKit
set_option linter.unusedVariables false

/-- A bool, and the old memory as it was. -/
def Says (b : Bool) (w : World) (e : Ending) (w' : World) : Prop := e = .returned (.bool b) ∧ Below w.heap.size w w'

end Go.Proofs.YtpmoknnhgginjaaDoor.Lzz

/- The walk of Bytes. -/
namespace Go.Proofs.YtpmoknnhgginjaaDoor.Lzz
open Go.RowKit
set_option linter.unusedVariables false

theorem own_at {w : World} {B n c : Nat} {aa : Option Addr} {ds : List Nat} (h : w.ownsRow B 5 1 (.slice aa n c) n (bys ds)) (hp : 0 < n) : ∃ g, aa = some ⟨g, 0, none⟩ ∧ B ≤ g ∧ n ≤ c ∧ ds.length = n ∧ ∀ (j y : Nat), ds[j]? = some y → w.cell? ⟨g, j, none⟩ = some (.int .u8 (y : Int)) := by
  obtain ⟨hl, h2⟩ := h
  rw [bys_length] at hl
  rcases h2 with ⟨_, e2⟩ | ⟨g, cap, cur, e, hB, hh, p1, p2, p3, p4⟩
  · omega
  · cases e
    refine ⟨g, rfl, hB, p1, by omega, fun j y hj => ?_⟩
    have hj2 : (bys ds)[j]? = (cur.toList.take (n * 1))[j]? := by rw [p4]
    have hjl : j < n := by have := (List.getElem?_eq_some_iff.1 hj).1; omega
    unfold bys at hj2
    rw [List.getElem?_take_of_lt (by omega), List.getElem?_map, hj] at hj2
    have hj3 : cur[j]? = some (.int .u8 (y : Int)) := by simpa using hj2.symm
    simp [World.cell?, hh, hj3]
/-- A row of bytes that the call owns, beside which the old memory is as it was. -/
structure Grow (w : World) (v : Value) (out : List Nat) (w' : World) : Prop where
  own : w'.ownsRow w.heap.size 5 1 v out.length (bys out)
  byte : ∀ y ∈ out, y < 256
  old : Below w.heap.size w w'
theorem Grow.later {w w1 w2 : World} {v : Value} {out : List Nat} (h : Grow w v out w1) (hb : Below w1.heap.size w1 w2) : Grow w v out w2 :=
  ⟨own_kept2 h.own (fun g e => hb.block g (own_lt2 h.own g e).2), h.byte, below_more h.old hb (Nat.le_refl _)⟩
theorem Grow.nil (w : World) : Grow w (.slice none 0 0) [] w := ⟨World.ownsRow_nil _ _ _ _, fun y hy => (by cases hy), Below.refl _ _⟩
/-- .. and a block beside it that stays. -/
structure Pinned (w : World) (P : Nat) (ob : Obj) (v : Value) (out : List Nat) (w' : World) : Prop where
  grow : Grow w v out w'
  pin : w'.heap[P]? = some ob
  apart : v.ownBlock ≠ some P
theorem Grow.pinned {w w1 : World} {v : Value} {out : List Nat} (h : Grow w v out w1) (cs : Array Value) (t : TypeId) : Pinned w w1.heap.size (.cells cs t (0, 0)) v out (w1.alloc (.cells cs t)) := by
  refine ⟨h.later ((Below.refl _ _).alloc (Nat.le_refl _) _), heap_alloc_new _ _, fun e => ?_⟩
  have := (own_lt2 h.own _ e).2
  omega
theorem Pinned.lt {w w1 : World} {P : Nat} {ob : Obj} {v : Value} {out : List Nat} (h : Pinned w P ob v out w1) : P < w1.heap.size := lt_of_block h.pin
theorem Pinned.later {w w1 w2 : World} {P : Nat} {ob : Obj} {v : Value} {out : List Nat} (h : Pinned w P ob v out w1) (hb : Below w1.heap.size w1 w2) : Pinned w P ob v out w2 :=
  ⟨h.grow.later hb, (hb.block P h.lt).trans h.pin, h.apart⟩
/-- One byte more. -/
theorem Pinned.push {w w1 W w2 : World} {P N : Nat} {ob : Obj} {v v' : Value} {out : List Nat} {y : Nat} (h : Pinned w P ob v out w1) (hW : Below w1.heap.size w1 W) (hy : y < 256)
    (hown : w2.ownsRow w.heap.size 5 1 v' (out.length + 1) (bys (out ++ [y]))) (hg : W.grownBy w2 v.ownBlock) (hat : v'.ownBlock = v.ownBlock ∨ v'.ownBlock = some N) (hN : w1.heap.size ≤ N) : Pinned w P ob v' (out ++ [y]) w2 := by
  have hP := h.lt
  have hPW : P < W.heap.size := Nat.lt_of_lt_of_le hP hW.size
  refine ⟨⟨by rw [List.length_append]; exact hown, both_lt h.grow.byte (by intro z hz; simp at hz; omega), ?_⟩, ?_, ?_⟩
  · exact grown_below (Nat.le_refl _) (below_more h.grow.old hW (Nat.le_refl _)) hg (fun k e => (own_lt2 h.grow.own k e).1)
  · exact ((hg.block P hPW (fun e => h.apart e.symm)).trans (hW.block P hP)).trans h.pin
  · rcases hat with e | e
    · rw [e]; exact h.apart
    · rw [e]; simp; omega
theorem one_byte (w : World) (y : Nat) (hy : y < 256) : Bytes (w.alloc (.cells #[.int .u8 (y : Nat)] 5)) (some ⟨w.heap.size, 0, none⟩) 1 [y] :=
  lit_bytes w #[.int .u8 (y : Nat)] [y] (0, 0) rfl (by intro x hx; simp at hx; omega)
/-- What Bytes tells. -/
def Brings (w : World) (most : Int) (ts : List Tok) (e : Ending) (w' : World) : Prop :=
  ∃ aa c, e = .returned (.tuple #[.slice aa (brings most [] ts).2.length c, .int .i64 (brings most [] ts).1]) ∧ Grow w (.slice aa (brings most [] ts).2.length c) (brings most [] ts).2 w'

end Go.Proofs.YtpmoknnhgginjaaDoor.Lzz

/- The walk of literals; Find without effort. -/
namespace Go.Proofs.YtpmoknnhgginjaaDoor.Lzz
open Go.RowKit
set_option linter.unusedVariables false

/-- A literal. -/
def lit (y : Nat) : Tok := ⟨0, 0, y⟩
/-- Tokens that a call tells, in memory of its own. -/
def Finds (w : World) (ts : List Tok) (e : Ending) (w' : World) : Prop :=
  ∃ aa c, e = .returned (.slice aa ts.length c) ∧ Toks w' aa ts.length ts ∧ (∀ x, aa = some x → w.heap.size ≤ x.block) ∧ Below w.heap.size w w'

end Go.Proofs.YtpmoknnhgginjaaDoor.Lzz

/- Tokens as cells; append of one; the document's examples. -/
namespace Go.Proofs.YtpmoknnhgginjaaDoor.Lzz
open Go.RowKit
set_option linter.unusedVariables false

/-- Tokens as cells. -/
def tokv (t : Tok) : List Value := [.int .i64 t.L, .int .i64 t.D, .int .u8 (t.X : Nat)]
def tokvs : List Tok → List Value
  | [] => []
  | t :: ts => tokv t ++ tokvs ts
theorem tokvs_cons (t : Tok) (ts : List Tok) : tokvs (t :: ts) = tokv t ++ tokvs ts := rfl
theorem tokvs_length (ts : List Tok) : (tokvs ts).length = ts.length * 3 := by
  induction ts with
  | nil => rfl
  | cons t ts ih => rw [tokvs_cons, List.length_append, ih, List.length_cons]; simp [tokv]; omega
theorem tokvs_append (ts us : List Tok) : tokvs (ts ++ us) = tokvs ts ++ tokvs us := by
  induction ts with
  | nil => rfl
  | cons t ts ih => rw [List.cons_append, tokvs_cons, tokvs_cons, ih, List.append_assoc]
theorem tokvs_at {ts : List Tok} {i : Nat} {t : Tok} (h : ts[i]? = some t) (r : Nat) (hr : r < 3) : (tokvs ts)[i * 3 + r]? = (tokv t)[r]? := by
  induction ts generalizing i with
  | nil => simp at h
  | cons u ts ih =>
    rw [tokvs_cons]
    cases i with
    | zero =>
      simp only [List.getElem?_cons_zero, Option.some.injEq] at h
      subst h
      rw [Nat.zero_mul, Nat.zero_add, List.getElem?_append_left (by simp [tokv]; omega)]
    | succ i =>
      rw [List.getElem?_cons_succ] at h
      rw [List.getElem?_append_right (by simp [tokv]; omega), ← ih h]
      congr 1
      simp [tokv]
      omega
/-- Cells that hold tokens. -/
theorem toks_cells {w : World} {g : Nat} {cs : Array Value} {ty : TypeId} {fr : Nat × Nat} {ts : List Tok} {m : Nat} (hh : w.heap[g]? = some (.cells cs ty fr)) (hc : cs.toList.take m = tokvs ts) (hf : ∀ t ∈ ts, Fits t) : Toks w (some ⟨g, 0, none⟩) ts.length ts := by
  refine ⟨rfl, hf, fun _ => ⟨g, 0, rfl, fun i t ht => ?_⟩⟩
  have key : ∀ r, r < 3 → ∀ v, (tokv t)[r]? = some v → w.cell? ⟨g, 0 + i * 3 + r, none⟩ = some v := by
    intro r hr v hv
    rw [← tokvs_at ht r hr, ← hc] at hv
    have hm : i * 3 + r < m := by
      have := (List.getElem?_eq_some_iff.1 hv).1
      rw [List.length_take] at this
      omega
    rw [List.getElem?_take_of_lt hm] at hv
    have hv2 : cs[i * 3 + r]? = some v := by simpa using hv
    simp [World.cell?, hh, hv2]
  exact ⟨key 0 (by omega) _ rfl, key 1 (by omega) _ rfl, key 2 (by omega) _ rfl⟩
/-- A law's end: true, and the old memory as it was. -/
def Yes (w : World) (e : Ending) (w' : World) : Prop := e = .returned (.bool true) ∧ Below w.heap.size w w'
theorem Grow.arg {w w' : World} {out : List Nat} {aa : Option Addr} {c : Nat} (h : Grow w (.slice aa out.length c) out w') : Arg w' aa out.length c out := bytes_of_own h.own h.byte
def ex1 : List Tok := [⟨0, 0, 97⟩, ⟨0, 0, 98⟩, ⟨4, 2, 0⟩]
def ex2 : List Tok := [⟨3, 1, 0⟩]
theorem ex1_brings : brings 100 [] ex1 = (0, [97, 98, 97, 98, 97, 98]) := by decide +kernel
theorem ex2_brings : brings 100 [] ex2 = (22, []) := by decide +kernel
theorem ex1_fits : ∀ t ∈ ex1, Fits t := by
  intro t ht
  simp only [ex1, List.mem_cons, List.not_mem_nil, or_false] at ht
  rcases ht with rfl | rfl | rfl <;> (unfold Fits; simp)
theorem ex2_fits : ∀ t ∈ ex2, Fits t := by
  intro t ht
  simp only [ex2, List.mem_cons, List.not_mem_nil, or_false] at ht
  rcases ht with rfl
  unfold Fits
  simp
theorem const_at {w w1 : World} {C : Array Value} {g : Nat} (hw : w1 = w.alloc (.cells C 5)) (hg : g = w.heap.size) :
    (convert 26 26 (.slice (some ⟨g, 0, none⟩) 2 2)).run Tryd.prog w1 = .ok (.slice (some ⟨g, 0, none⟩) 2 2) (w.alloc (.cells C 5 (C.size, C.size + 1))) := by
  subst hg hw
  exact Lib.run_convert_bytes_const (P := Tryd.prog) w 26 5 C 2 2 Tryd.underlying26 Tryd.underlying5

end Go.Proofs.YtpmoknnhgginjaaDoor.Lzz
