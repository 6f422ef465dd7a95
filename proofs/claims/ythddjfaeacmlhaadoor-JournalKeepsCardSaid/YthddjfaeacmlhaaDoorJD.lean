/- Lists of texts in memory. -/
import Derived.Test.YthddjfaeacmlhaaDoorJC
namespace Go.Proofs.YthddjfaeacmlhaaDoor
open Go.RowKit Jr
set_option linter.unusedVariables false

theorem Arg.at_block {w w' : World} {a : Option Addr} {n c : Nat} {ys : List Nat} (h : Arg w a n c ys) (hk : ∀ ad, 0 < n → a = some ad → w'.heap[ad.block]? = w.heap[ad.block]?) : Arg w' a n c ys := by
  obtain ⟨⟨h1, h2, h3⟩, h4, h5⟩ := h
  refine ⟨⟨h1, h2, fun hp => ?_⟩, h4, h5⟩
  obtain ⟨b, off, e, hc⟩ := h3 hp
  have e1 := hk _ hp e
  exact ⟨b, off, e, fun j y hj => (World.cell?_of_block (w := w) (a := ⟨b, off + j, none⟩) e1).trans (hc j y hj)⟩
theorem Arg.lt {w : World} {a : Option Addr} {n c : Nat} {ys : List Nat} (h : Arg w a n c ys) (ad : Addr) (hp : 0 < n) (e : a = some ad) : ad.block < w.heap.size := by
  obtain ⟨b, off, e2, hc⟩ := h.1.2.2 hp
  rw [e] at e2
  cases e2
  have hl : 0 < ys.length := by have := h.1.1; omega
  exact World.block_lt_of_cell? w _ (hc 0 _ (List.getElem?_eq_getElem hl))

/-- A value that is a text, in a block of P. -/
def Item (w : World) (P : Nat → Prop) (v : Value) (ys : List Nat) : Prop := ∃ a m c, v = .slice a m c ∧ Arg w a m c ys ∧ ∀ ad, 0 < m → a = some ad → P ad.block
theorem Item.keep {w w' : World} {P : Nat → Prop} {v : Value} {ys : List Nat} (h : Item w P v ys) (hk : ∀ k, k < w.heap.size → P k → w'.heap[k]? = w.heap[k]?) : Item w' P v ys := by
  obtain ⟨a, m, c, e, ha, hp⟩ := h
  exact ⟨a, m, c, e, ha.at_block (fun ad h0 h1 => hk _ (ha.lt ad h0 h1) (hp ad h0 h1)), hp⟩
theorem Item.mono {w : World} {P Q : Nat → Prop} {v : Value} {ys : List Nat} (h : Item w P v ys) (hk : ∀ k, k < w.heap.size → P k → Q k) : Item w Q v ys := by
  obtain ⟨a, m, c, e, ha, hp⟩ := h
  exact ⟨a, m, c, e, ha, fun ad h0 h1 => hk _ (ha.lt ad h0 h1) (hp ad h0 h1)⟩
def Items (w : World) (P : Nat → Prop) (vs : List Value) (ls : List (List Nat)) : Prop := vs.length = ls.length ∧ ∀ (i : Nat) (v : Value), vs[i]? = some v → ∃ ys, ls[i]? = some ys ∧ Item w P v ys
theorem Items.nil (w : World) (P : Nat → Prop) : Items w P [] [] := ⟨rfl, fun i v h => by simp at h⟩
theorem Items.one {w : World} {P : Nat → Prop} {v : Value} {ys : List Nat} (h : Item w P v ys) : Items w P [v] [ys] := by
  refine ⟨rfl, fun i u hi => ?_⟩
  cases i with
  | zero => simp only [List.getElem?_cons_zero, Option.some.injEq] at hi; subst hi; exact ⟨ys, rfl, h⟩
  | succ i => simp at hi
theorem Items.append {w : World} {P : Nat → Prop} {vs us : List Value} {ls ms : List (List Nat)} (h : Items w P vs ls) (k : Items w P us ms) : Items w P (vs ++ us) (ls ++ ms) := by
  refine ⟨by rw [List.length_append, List.length_append, h.1, k.1], fun i v hi => ?_⟩
  by_cases hl : i < vs.length
  · rw [List.getElem?_append_left hl] at hi
    rw [List.getElem?_append_left (by rw [← h.1]; exact hl)]
    exact h.2 i v hi
  · rw [List.getElem?_append_right (by omega)] at hi
    rw [List.getElem?_append_right (by rw [← h.1]; omega), ← h.1]
    exact k.2 _ v hi
theorem Items.keep {w w' : World} {P : Nat → Prop} {vs : List Value} {ls : List (List Nat)} (h : Items w P vs ls) (hk : ∀ k, k < w.heap.size → P k → w'.heap[k]? = w.heap[k]?) : Items w' P vs ls :=
  ⟨h.1, fun i v hi => by obtain ⟨ys, e, hy⟩ := h.2 i v hi; exact ⟨ys, e, hy.keep hk⟩⟩
theorem Items.mono {w : World} {P Q : Nat → Prop} {vs : List Value} {ls : List (List Nat)} (h : Items w P vs ls) (hk : ∀ k, k < w.heap.size → P k → Q k) : Items w Q vs ls :=
  ⟨h.1, fun i v hi => by obtain ⟨ys, e, hy⟩ := h.2 i v hi; exact ⟨ys, e, hy.mono hk⟩⟩
theorem Items.take {w : World} {P : Nat → Prop} {vs : List Value} {ls : List (List Nat)} (h : Items w P vs ls) (k : Nat) : Items w P (vs.take k) (ls.take k) := by
  refine ⟨by rw [List.length_take, List.length_take, h.1], fun i v hi => ?_⟩
  rw [List.getElem?_take] at hi
  split at hi
  · rename_i hlt
    rw [List.getElem?_take_of_lt hlt]
    exact h.2 i v hi
  · cases hi
theorem Items.cell {w : World} {P : Nat → Prop} {vs : List Value} {ls : List (List Nat)} (h : Items w P vs ls) : ∀ u ∈ vs, u.oneCell' = true := by
  intro u hu
  obtain ⟨i, hi⟩ := List.getElem?_of_mem hu
  obtain ⟨ys, _, a, m, c, rfl, _⟩ := h.2 i u hi
  rfl

/-- Texts that a slice value leads to, in blocks of P. -/
def Tx (w : World) (P : Nat → Prop) (a : Option Addr) (n c : Nat) (ls : List (List Nat)) : Prop :=
  ls.length = n ∧ n ≤ c ∧ (a = none → n = 0 ∧ c = 0) ∧ ∃ vs, Items w P vs ls ∧ (0 < n → ∃ b off, a = some ⟨b, off, none⟩ ∧ P b ∧ ∀ (i : Nat) (v : Value), vs[i]? = some v → w.cell? ⟨b, off + i, none⟩ = some v)
theorem Tx.len {w : World} {P : Nat → Prop} {a : Option Addr} {n c : Nat} {ls : List (List Nat)} (h : Tx w P a n c ls) : ls.length = n := h.1
theorem Tx.keep {w w' : World} {P : Nat → Prop} {a : Option Addr} {n c : Nat} {ls : List (List Nat)} (h : Tx w P a n c ls) (hk : ∀ k, k < w.heap.size → P k → w'.heap[k]? = w.heap[k]?) : Tx w' P a n c ls := by
  obtain ⟨h1, h2, h3, vs, h4, h5⟩ := h
  refine ⟨h1, h2, h3, vs, h4.keep hk, fun hp => ?_⟩
  obtain ⟨b, off, e, hb, hc⟩ := h5 hp
  exact ⟨b, off, e, hb, fun i v hi => (World.cell?_of_block (w := w) (hk _ (World.block_lt_of_cell? w _ (hc i v hi)) hb)).trans (hc i v hi)⟩
theorem Tx.below {w w' : World} {P : Nat → Prop} {a : Option Addr} {n c : Nat} {ls : List (List Nat)} (h : Tx w P a n c ls) (hb : Below w.heap.size w w') : Tx w' P a n c ls := h.keep (fun k hk _ => hb.block k hk)
theorem Tx.mono {w : World} {P Q : Nat → Prop} {a : Option Addr} {n c : Nat} {ls : List (List Nat)} (h : Tx w P a n c ls) (hk : ∀ k, k < w.heap.size → P k → Q k) : Tx w Q a n c ls := by
  obtain ⟨h1, h2, h3, vs, h4, h5⟩ := h
  refine ⟨h1, h2, h3, vs, h4.mono hk, fun hp => ?_⟩
  obtain ⟨b, off, e, hb, hc⟩ := h5 hp
  have hl : 0 < vs.length := by rw [h4.1]; omega
  exact ⟨b, off, e, hk _ (World.block_lt_of_cell? w _ (hc 0 _ (List.getElem?_eq_getElem hl))) hb, hc⟩
theorem Tx.nil (w : World) (P : Nat → Prop) : Tx w P none 0 0 [] := ⟨rfl, Nat.le_refl _, fun _ => ⟨rfl, rfl⟩, [], Items.nil w P, fun h => absurd h (Nat.lt_irrefl 0)⟩
theorem Tx.take {w : World} {P : Nat → Prop} {a : Option Addr} {n c k : Nat} {ls : List (List Nat)} (h : Tx w P a n c ls) (hk : k ≤ n) : Tx w P a k c (ls.take k) := by
  obtain ⟨h1, h2, h3, vs, h4, h5⟩ := h
  refine ⟨by rw [List.length_take]; omega, by omega, fun e => ⟨by have := (h3 e).1; omega, (h3 e).2⟩, vs.take k, h4.take k, fun hp => ?_⟩
  obtain ⟨b, off, e, hb, hc⟩ := h5 (by omega)
  refine ⟨b, off, e, hb, fun i v hi => hc i v ?_⟩
  rw [List.getElem?_take] at hi
  split at hi
  · exact hi
  · cases hi
theorem Tx.at {w : World} {P : Nat → Prop} {a : Option Addr} {n c i : Nat} {ls : List (List Nat)} (h : Tx w P a n c ls) (hi : i < n) :
    ∃ b off ys a' m c', a = some ⟨b, off, none⟩ ∧ ls[i]? = some ys ∧ w.cell? ⟨b, off + i, none⟩ = some (.slice a' m c') ∧ Arg w a' m c' ys ∧ (∀ ad, 0 < m → a' = some ad → P ad.block) ∧ P b := by
  obtain ⟨h1, h2, h3, vs, h4, h5⟩ := h
  obtain ⟨b, off, e, hb, hc⟩ := h5 (by omega)
  have hl : i < vs.length := by rw [h4.1]; omega
  have hv := List.getElem?_eq_getElem hl
  obtain ⟨ys, hy, a', m, c', e2, ha, hp⟩ := h4.2 i _ hv
  have hcl := hc i _ hv
  rw [e2] at hcl
  exact ⟨b, off, ys, a', m, c', e, hy, hcl, ha, hp, hb⟩

/-- A list of the call's own. -/
def OwnL (w : World) (base : Nat) (P : Nat → Prop) (aa : Option Addr) (n c : Nat) (ls : List (List Nat)) : Prop :=
  ls.length = n ∧ ∃ vs, w.ownsRow base 22 1 (.slice aa n c) n vs ∧ Items w P vs ls
theorem rowB_kept {w w' : World} {B n : Nat} {v : Value} {xs : List Value} (h : w.ownsRow B 22 1 v n xs) (hk : ∀ k, v.ownBlock = some k → w'.heap[k]? = w.heap[k]?) : w'.ownsRow B 22 1 v n xs := by
  obtain ⟨h1, h2⟩ := h
  refine ⟨h1, ?_⟩
  rcases h2 with h2 | ⟨g, cap, cur, rfl, hg, hh, r⟩
  · exact Or.inl h2
  · exact Or.inr ⟨g, cap, cur, rfl, hg, (hk g rfl).trans hh, r⟩
theorem OwnL.nil (w : World) (base : Nat) (P : Nat → Prop) : OwnL w base P none 0 0 [] := ⟨rfl, [], World.ownsRow_nil _ _ _ _, Items.nil w P⟩
theorem OwnL.keep {w w' : World} {base : Nat} {P : Nat → Prop} {aa : Option Addr} {n c : Nat} {ls : List (List Nat)} (h : OwnL w base P aa n c ls) (hk : ∀ k, k < w.heap.size → P k ∨ (Value.slice aa n c).ownBlock = some k → w'.heap[k]? = w.heap[k]?) : OwnL w' base P aa n c ls := by
  obtain ⟨h1, vs, h2, h3⟩ := h
  exact ⟨h1, vs, rowB_kept h2 (fun k e => hk k (h2.lt k e).2 (Or.inr e)), h3.keep (fun k hl hp => hk k hl (Or.inl hp))⟩
theorem OwnL.below {w w' : World} {base : Nat} {P : Nat → Prop} {aa : Option Addr} {n c : Nat} {ls : List (List Nat)} (h : OwnL w base P aa n c ls) (hb : Below w.heap.size w w') : OwnL w' base P aa n c ls := h.keep (fun k hk _ => hb.block k hk)
theorem OwnL.mono {w : World} {base : Nat} {P Q : Nat → Prop} {aa : Option Addr} {n c : Nat} {ls : List (List Nat)} (h : OwnL w base P aa n c ls) (hk : ∀ k, k < w.heap.size → P k → Q k) : OwnL w base Q aa n c ls := by
  obtain ⟨h1, vs, h2, h3⟩ := h
  exact ⟨h1, vs, h2, h3.mono hk⟩
theorem OwnL.tx {w : World} {base : Nat} {P : Nat → Prop} {aa : Option Addr} {n c : Nat} {ls : List (List Nat)} (h : OwnL w base P aa n c ls) : Tx w (fun k => base ≤ k ∨ P k) aa n c ls := by
  obtain ⟨h1, vs, ⟨hl, h2⟩, h3⟩ := h
  rcases h2 with ⟨e, e2⟩ | ⟨g, cap, cur, e, hB, hh, p1, p2, p3, p4⟩
  · cases e
    exact ⟨h1, Nat.le_refl _, fun _ => ⟨rfl, rfl⟩, vs, h3.mono (fun k _ h => Or.inr h), fun h => absurd h (Nat.lt_irrefl 0)⟩
  · cases e
    refine ⟨h1, p1, fun h => (by cases h), vs, h3.mono (fun k _ h => Or.inr h), fun hp => ⟨g, 0, rfl, Or.inl hB, fun i v hi => ?_⟩⟩
    have hi2 : vs[i]? = (cur.toList.take (n * 1))[i]? := by rw [p4]
    have hil : i < n := by have := (List.getElem?_eq_some_iff.1 hi).1; omega
    rw [List.getElem?_take_of_lt (by omega), hi] at hi2
    have hi3 : cur[i]? = some v := by simpa using hi2.symm
    simp [World.cell?, hh, hi3]
theorem OwnL.cap {w : World} {base : Nat} {P : Nat → Prop} {aa : Option Addr} {n c : Nat} {ls : List (List Nat)} (h : OwnL w base P aa n c ls) : n ≤ c ∧ (aa = none → n = 0 ∧ c = 0) := ⟨h.tx.2.1, h.tx.2.2.1⟩

theorem infoB : (Tryd.prog.info? 22).map (fun i => (i.zero, i.size, i.bytes)) = some (some (.slice none 0 0), 1, 24) := by kernel_rfl
/-- append of texts to a list of the call's own, as one step. -/
theorem wpList_append_vals {w : World} {ops : Array Oper} {rest : List Oper} {o : Oper} {a : Act} {Q : Exit → Act → World → Prop} (hgd : o.guard = none) (s x : Operand) (ho : o.op = .call { callee := .builtin .append, args := #[s, x], argTypes := #[24, 24] })
    (base : Nat) (P : Nat → Prop) (aa : Option Addr) (n c : Nat) (ls : List (List Nat)) (hs : a.eval s = .slice aa n c) (hown : OwnL w base P aa n c ls)
    (ad : Option Addr) (m c2 : Nat) (ms : List (List Nat)) (hx : a.eval x = .slice ad m c2) (us : List Value) (h1 : ms.length = m) (h3 : ad = none → m = 0 ∧ c2 = 0) (h4 : Items w P us ms) (h5 : 0 < m → ∃ b off, ad = some ⟨b, off, none⟩ ∧ ∀ (i : Nat) (v : Value), us[i]? = some v → w.cell? ⟨b, off + i, none⟩ = some v) (hn : n ≤ 16777216) (hm : m ≤ 16777216) (hbase : base ≤ w.heap.size)
    (hP : ∀ k, P k → (Value.slice aa n c).ownBlock ≠ some k)
    (h : ∀ aa' cap w', OwnL w' base P aa' (n + m) cap (ls ++ ms) → w.grownBy w' (Value.slice aa n c).ownBlock → ((Value.slice aa' (n + m) cap).ownBlock = (Value.slice aa n c).ownBlock ∨ (Value.slice aa' (n + m) cap).ownBlock = some w.heap.size) → wpList Tryd.prog ops Q rest (a.put o.dst (.slice aa' (n + m) cap)) w') :
    wpList Tryd.prog ops Q (o :: rest) a w := by
  refine wpList_plain hgd fun K hK => ?_
  obtain ⟨i0, hi, hz0, hz1, hz2⟩ := info_parts infoB
  obtain ⟨k1, vs, k2, k3⟩ := hown
  have key : ∃ aa' cap w', (Builtin.append_ #[24, 24] o.type #[.slice aa n c, .slice ad m c2]).run Tryd.prog w = .ok (.slice aa' (n + m) cap) w' ∧ w'.ownsRow base 22 1 (.slice aa' (n + m) cap) (n + m) (vs ++ us) ∧ w.grownBy w' (Value.slice aa n c).ownBlock ∧
      ((Value.slice aa' (n + m) cap).ownBlock = (Value.slice aa n c).ownBlock ∨ (Value.slice aa' (n + m) cap).ownBlock = some w.heap.size) := by
    have hus : us.length = m := by rw [h4.1, h1]
    cases ad with
    | none =>
      obtain ⟨rfl, rfl⟩ := h3 rfl
      obtain rfl : us = [] := List.eq_nil_of_length_eq_zero hus
      have hr := run_append_owned_none (P := Tryd.prog) (w := w) base 24 o.type 22 i0 1 Tryd.underlying24 hi _ _ _ k2
      refine ⟨aa, c, w, hr, ?_, ⟨rfl, rfl, rfl, Nat.le_refl _, fun _ _ _ => rfl⟩, Or.inl rfl⟩
      rw [List.append_nil]
      exact k2
    | some ad =>
      obtain ⟨v', w', hr, q1, q2, q4, q5⟩ := run_append_own_at (P := Tryd.prog) w base 24 o.type 22 i0 (.slice none 0 0) 1 24 Tryd.underlying24 hi hz0 hz1 hz2 rfl (by decide) _ n _ k2 ad m c2 us (by rw [hus]; omega)
        (by
          intro j u hj
          have hjl := (List.getElem?_eq_some_iff.1 hj).1
          obtain ⟨b, off, e, hcl⟩ := h5 (by omega)
          cases e
          rw [add_spot]
          exact hcl j u hj)
        h4.cell (by unfold maxLen; omega) (by omega) hbase
      have hv : ∃ aa cap, v' = .slice aa (n + m) cap := by
        rcases q1.2 with ⟨e, e2⟩ | ⟨g, cap, _, e, _⟩
        · exact ⟨none, 0, by rw [e, e2]⟩
        · exact ⟨_, _, e⟩
      obtain ⟨aa', cap, rfl⟩ := hv
      exact ⟨aa', cap, w', hr, q1, q2, q5⟩
  obtain ⟨aa', cap, w', hr, q1, q2, q3⟩ := key
  have hkeep : ∀ k, k < w.heap.size → P k → w'.heap[k]? = w.heap[k]? := fun k hk hp => q2.block k hk (fun e => hP k hp e.symm)
  have hO : OwnL w' base P aa' (n + m) cap (ls ++ ms) := ⟨by rw [List.length_append, k1, h1], vs ++ us, q1, (k3.keep hkeep).append (h4.keep hkeep)⟩
  unfold Oper.wp execOp
  simp only [ho, resolve, invoke, builtin, Sem.run_bind, Sem.run_pure, Result.andThen_ok, List.map_toArray, List.map_cons, List.map_nil, hs, hx, hr]
  exact hK _ _ (h aa' cap w' hO q2 q3)
theorem wpList_append_items {w : World} {ops : Array Oper} {rest : List Oper} {o : Oper} {a : Act} {Q : Exit → Act → World → Prop} (hgd : o.guard = none) (s x : Operand) (ho : o.op = .call { callee := .builtin .append, args := #[s, x], argTypes := #[24, 24] })
    (base : Nat) (P : Nat → Prop) (aa : Option Addr) (n c : Nat) (ls : List (List Nat)) (hs : a.eval s = .slice aa n c) (hown : OwnL w base P aa n c ls)
    (ad : Option Addr) (m c2 : Nat) (ms : List (List Nat)) (hx : a.eval x = .slice ad m c2) (hb : Tx w P ad m c2 ms) (hn : n ≤ 16777216) (hm : m ≤ 16777216) (hbase : base ≤ w.heap.size)
    (hP : ∀ k, P k → (Value.slice aa n c).ownBlock ≠ some k)
    (h : ∀ aa' cap w', OwnL w' base P aa' (n + m) cap (ls ++ ms) → w.grownBy w' (Value.slice aa n c).ownBlock → ((Value.slice aa' (n + m) cap).ownBlock = (Value.slice aa n c).ownBlock ∨ (Value.slice aa' (n + m) cap).ownBlock = some w.heap.size) → wpList Tryd.prog ops Q rest (a.put o.dst (.slice aa' (n + m) cap)) w') :
    wpList Tryd.prog ops Q (o :: rest) a w := by
  obtain ⟨h1, h2, h3, us, h4, h5⟩ := hb
  exact wpList_append_vals hgd s x ho base P aa n c ls hs hown ad m c2 ms hx us h1 h3 h4 (fun hp => by obtain ⟨b, off, e, _, hcl⟩ := h5 hp; exact ⟨b, off, e, hcl⟩) hn hm hbase hP h
/-- A list of one text, laid by the call. -/
theorem one_tx {w : World} {P : Nat → Prop} {a : Option Addr} {n c : Nat} {ys : List Nat} (h : Arg w a n c ys) (hp : ∀ ad, 0 < n → a = some ad → P ad.block) (hP : P w.heap.size) : Tx (w.alloc (.cells #[.slice a n c] 22)) P (some ⟨w.heap.size, 0, none⟩) 1 1 [ys] := by
  refine ⟨rfl, Nat.le_refl _, fun e => (by cases e), [.slice a n c], Items.one ⟨a, n, c, rfl, h.later (fun k hk => Below.heap_alloc _ _ _ hk), hp⟩, fun _ => ⟨_, _, rfl, hP, fun i v hi => ?_⟩⟩
  cases i with
  | zero => simp only [List.getElem?_cons_zero, Option.some.injEq] at hi; subst hi; simp
  | succ i => simp at hi
end Go.Proofs.YthddjfaeacmlhaaDoor
