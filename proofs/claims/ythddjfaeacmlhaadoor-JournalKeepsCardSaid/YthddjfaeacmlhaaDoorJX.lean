/- append of texts in a region that draws; the list that JournalKeeps makes anew. -/
import Derived.Test.YthddjfaeacmlhaaDoorJV
namespace Go.Proofs.YthddjfaeacmlhaaDoor
open Go.RowKit Jr
set_option linter.unusedVariables false

theorem append_run {w : World} (ty : TypeId) (base : Nat) (P : Nat → Prop) (aa : Option Addr) (n c : Nat) (ls : List (List Nat)) (hown : OwnL w base P aa n c ls)
    (ad : Option Addr) (m c2 : Nat) (ms : List (List Nat)) (us : List Value) (h1 : ms.length = m) (h3 : ad = none → m = 0 ∧ c2 = 0) (h4 : Items w P us ms) (h5 : 0 < m → ∃ b off, ad = some ⟨b, off, none⟩ ∧ ∀ (i : Nat) (v : Value), us[i]? = some v → w.cell? ⟨b, off + i, none⟩ = some v) (hn : n ≤ 16777216) (hm : m ≤ 16777216) (hbase : base ≤ w.heap.size)
    (hP : ∀ k, P k → (Value.slice aa n c).ownBlock ≠ some k) :
    ∃ aa' cap w', (Builtin.append_ #[24, 24] ty #[.slice aa n c, .slice ad m c2]).run Tryd.prog w = .ok (.slice aa' (n + m) cap) w' ∧ OwnL w' base P aa' (n + m) cap (ls ++ ms) ∧ w.grownBy w' (Value.slice aa n c).ownBlock ∧
      ((Value.slice aa' (n + m) cap).ownBlock = (Value.slice aa n c).ownBlock ∨ (Value.slice aa' (n + m) cap).ownBlock = some w.heap.size) := by
  obtain ⟨i0, hi, hz0, hz1, hz2⟩ := info_parts infoB
  obtain ⟨k1, vs, k2, k3⟩ := hown
  have hus : us.length = m := by rw [h4.1, h1]
  have key : ∃ aa' cap w', (Builtin.append_ #[24, 24] ty #[.slice aa n c, .slice ad m c2]).run Tryd.prog w = .ok (.slice aa' (n + m) cap) w' ∧ w'.ownsRow base 22 1 (.slice aa' (n + m) cap) (n + m) (vs ++ us) ∧ w.grownBy w' (Value.slice aa n c).ownBlock ∧
      ((Value.slice aa' (n + m) cap).ownBlock = (Value.slice aa n c).ownBlock ∨ (Value.slice aa' (n + m) cap).ownBlock = some w.heap.size) := by
    cases ad with
    | none =>
      obtain ⟨rfl, rfl⟩ := h3 rfl
      obtain rfl : us = [] := List.eq_nil_of_length_eq_zero hus
      have hr := run_append_owned_none (P := Tryd.prog) (w := w) base 24 ty 22 i0 1 Tryd.underlying24 hi _ _ _ k2
      refine ⟨aa, c, w, hr, ?_, ⟨rfl, rfl, rfl, Nat.le_refl _, fun _ _ _ => rfl⟩, Or.inl rfl⟩
      rw [List.append_nil]
      exact k2
    | some ad =>
      obtain ⟨v', w', hr, q1, q2, q4, q5⟩ := run_append_own_at (P := Tryd.prog) w base 24 ty 22 i0 (.slice none 0 0) 1 24 Tryd.underlying24 hi hz0 hz1 hz2 rfl (by decide) _ n _ k2 ad m c2 us (by rw [hus]; omega)
        (by
          intro j u hj
          have hjl := (List.getElem?_eq_some_iff.1 hj).1
          obtain ⟨b, off, e, hcl⟩ := h5 (by omega)
          cases e
          rw [add_spot]
          exact hcl j u hj)
        h4.cell (by unfold maxLen; omega) (by omega) hbase
      have hv : ∃ aa cap, v' = .slice aa (n + m) cap := by
        rcases q1.2 with ⟨e, e2⟩ | ⟨g, cap, _, e, _⟩
        · exact ⟨none, 0, by rw [e, e2]⟩
        · exact ⟨_, _, e⟩
      obtain ⟨aa', cap, rfl⟩ := hv
      exact ⟨aa', cap, w', hr, q1, q2, q5⟩
  obtain ⟨aa', cap, w', hr, q1, q2, q3⟩ := key
  have hkeep : ∀ k, k < w.heap.size → P k → w'.heap[k]? = w.heap[k]? := fun k hk hp => q2.block k hk (fun e => hP k hp e.symm)
  exact ⟨aa', cap, w', hr, ⟨by rw [List.length_append, k1, h1], vs ++ us, q1, (k3.keep hkeep).append (h4.keep hkeep)⟩, q2, q3⟩

/-- A list being made anew: blocks from base on are its own; what it holds lies below. -/
structure Anew (W : World) (P : Nat → Prop) (aa : Option Addr) (n c : Nat) (ls : List (List Nat)) (w : World) : Prop where
  own : OwnL w W.heap.size (fun q => q < W.heap.size ∧ P q) aa n c ls
  below : Below W.heap.size W w
/-- A source beside it: texts of old memory. -/
structure From (W : World) (P : Nat → Prop) (ad : Option Addr) (m c : Nat) (ms : List (List Nat)) (w : World) : Prop where
  src : ∃ us, ms.length = m ∧ (ad = none → m = 0 ∧ c = 0) ∧ Items w (fun q => q < W.heap.size ∧ P q) us ms ∧ (0 < m → ∃ b off, ad = some ⟨b, off, none⟩ ∧ ∀ (i : Nat) (v : Value), us[i]? = some v → w.cell? ⟨b, off + i, none⟩ = some v)
theorem Anew.drew {W w : World} {P : Nat → Prop} {aa : Option Addr} {n c : Nat} {ls : List (List Nat)} (h : Anew W P aa n c ls w) : Anew W P aa n c ls w.drew := ⟨h.own.keep (fun _ _ _ => rfl), below_drew h.below⟩
theorem From.drew {W w : World} {P : Nat → Prop} {ad : Option Addr} {m c : Nat} {ms : List (List Nat)} (h : From W P ad m c ms w) : From W P ad m c ms w.drew := by
  obtain ⟨us, h1, h2, h3, h4⟩ := h.src
  exact ⟨us, h1, h2, h3.keep (fun _ _ _ => rfl), h4⟩
theorem Anew.alloc {W w : World} {P : Nat → Prop} {aa : Option Addr} {n c : Nat} {ls : List (List Nat)} (h : Anew W P aa n c ls w) (o : Obj) : Anew W P aa n c ls (w.alloc o) :=
  ⟨h.own.keep (fun k hk _ => Below.heap_alloc _ _ _ hk), h.below.alloc h.below.size _⟩
/-- An empty one. -/
theorem Anew.new {W w : World} {P : Nat → Prop} (hb : Below W.heap.size W w) : Anew W P (some ⟨w.heap.size, 0, none⟩) 0 0 [] (w.alloc (.cells #[] 22)) :=
  ⟨⟨rfl, [], ⟨rfl, .inr ⟨_, 0, #[], rfl, hb.size, heap_alloc_new _ _, Nat.le_refl _, Nat.zero_le _, rfl, rfl⟩⟩, Items.nil _ _⟩, hb.alloc hb.size _⟩
/-- The old list. -/
theorem From.old {W w : World} {P : Nat → Prop} {ad : Option Addr} {m c : Nat} {ms : List (List Nat)} (h : Tx W P ad m c ms) (hb : Below W.heap.size W w) : From W P ad m c ms w := by
  obtain ⟨h1, h2, h3, us, h4, h5⟩ := (h.mono (Q := fun q => q < W.heap.size ∧ P q) (fun q hq hp => ⟨hq, hp⟩)).below hb
  exact ⟨us, h1, h3, h4, fun hp => by obtain ⟨b, off, e, _, hc⟩ := h5 hp; exact ⟨b, off, e, hc⟩⟩
/-- One text, in a list of its own. -/
theorem From.one {W w : World} {P : Nat → Prop} {a : Option Addr} {n c s : Nat} {ys : List Nat} (h : Arg W a n c ys) (hp : ∀ ad, 0 < n → a = some ad → P ad.block) (hb : Below W.heap.size W w) (hs : w.heap[s]? = some (.cells #[.slice a n c] 22 (0, 0))) : From W P (some ⟨s, 0, none⟩) 1 1 [ys] w := by
  refine ⟨[.slice a n c], rfl, fun e => (by cases e), Items.one ⟨a, n, c, rfl, h.below hb, fun ad h0 e => ⟨h.lt ad h0 e, hp ad h0 e⟩⟩, fun _ => ⟨s, 0, rfl, fun i v hi => ?_⟩⟩
  cases i with
  | zero => simp only [List.getElem?_cons_zero, Option.some.injEq] at hi; subst hi; simp [World.cell?, hs]
  | succ i => simp at hi
theorem step_anew {W w : World} {P : Nat → Prop} {ops : Array Oper} {o : Oper} {a : Act} {K : Act → World → Prop} {Q : Exit → Act → World → Prop} {F : Prop} (hgd : o.guard = none) (s x : Operand) (ho : o.op = .call { callee := .builtin .append, args := #[s, x], argTypes := #[24, 24] })
    (aa : Option Addr) (n c : Nat) (ls : List (List Nat)) (hs : a.eval s = .slice aa n c) (hown : Anew W P aa n c ls w) (ad : Option Addr) (m c2 : Nat) (ms : List (List Nat)) (hx : a.eval x = .slice ad m c2) (h0 : From W P ad m c2 ms w) (hm : m ≤ 16777216) (hn : n ≤ 16777216)
    (h : ∀ aa' cap w', Anew W P aa' (n + m) cap (ls ++ ms) w' → w.grownBy w' (Value.slice aa n c).ownBlock → K (a.put o.dst (.slice aa' (n + m) cap)) w') :
    if Region.wanted o (yielded ops a.tmps) = true then Oper.wp Tryd.prog o a w K Q else F := by
  have hw : Region.wanted o (yielded ops a.tmps) = true := by simp [Region.wanted, hgd]
  rw [if_pos hw]
  obtain ⟨us, h1, h3, h4, h5⟩ := h0.src
  have hlow : ∀ g, (Value.slice aa n c).ownBlock = some g → W.heap.size ≤ g := by
    obtain ⟨_, vs, hv, _⟩ := hown.own
    exact fun g e => (hv.lt g e).1
  obtain ⟨aa', cap, w', hr, k1, k2, _⟩ := append_run o.type W.heap.size _ aa n c ls hown.own ad m c2 ms us h1 h3 h4 h5 hn hm hown.below.size (fun q hq e => by have := hlow q e; have := hq.1; omega)
  unfold Oper.wp execOp
  simp only [ho, resolve, invoke, builtin, Sem.run_bind, Sem.run_pure, Result.andThen_ok, List.map_toArray, List.map_cons, List.map_nil, hs, hx, hr]
  exact h aa' cap w' ⟨k1, grown_below (Nat.le_refl _) hown.below k2 hlow⟩ k2
end Go.Proofs.YthddjfaeacmlhaaDoor
