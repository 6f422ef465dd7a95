/- A walk over a table. -/
import Derived.Test.YtgonpaofickffaaTA
namespace Go.Proofs.Ytgonpaofickffaa
open Go.RowKit Go.Maps
set_option linter.unusedVariables false

/-- A walk r over the table m: what is still to come. -/
structure Rng (w : World) (m r : Nat) (T : Nat → Nat → Option Nat) (L : List (Nat × Nat)) (left : Nat → Nat → Bool) (c : Nat) : Prop where
  ex : ∃ (D : DataW Unit) (lf : Lit → Bool), w.ranges Try.prog 70 tileR m r L.length D lf c ∧ Maps.size D = L.length ∧ (∀ i j, i < 4294967296 → j < 4294967296 → D.atKey (key i j) .nil = tileD (T i j)) ∧
    (∀ kl, Maps.has D kl = true → ∃ i j, i < 2048 ∧ j < 2048 ∧ kl = key i j ∧ T i j ≠ none) ∧ ∀ i j, i < 4294967296 → j < 4294967296 → lf (key i j) = left i j
  ls : ∀ i j, (i, j) ∈ L ↔ T i j ≠ none
  rng : ∀ i j, T i j ≠ none → i < 2048 ∧ j < 2048
  nd : L.Nodup
theorem Rng.tab {w : World} {m r : Nat} {T : Nat → Nat → Option Nat} {L : List (Nat × Nat)} {left : Nat → Nat → Bool} {c : Nat} (h : Rng w m r T L left c) : Tab w m T L := by
  obtain ⟨⟨D, lf, h1, h2, h3, h4, h5⟩, h6, h7, h8⟩ := h
  exact ⟨⟨D, h1.owns, h2, h3, h4⟩, h6, h7, h8⟩
theorem Rng.keep {w w' : World} {m r : Nat} {T : Nat → Nat → Option Nat} {L : List (Nat × Nat)} {left : Nat → Nat → Bool} {c : Nat} (h : Rng w m r T L left c) (hm : w'.heap[m]? = w.heap[m]?) (hr : w'.heap[r]? = w.heap[r]?) : Rng w' m r T L left c := by
  obtain ⟨⟨D, lf, ⟨es, cl, si, se, c0, q1, q2, q3, q4, q5, q6⟩, h2⟩, h6, h7, h8⟩ := h
  exact ⟨⟨D, lf, ⟨es, cl, si, se, c0, hm.trans q1, q2, q3, q4, hr.trans q5, q6⟩, h2⟩, h6, h7, h8⟩
theorem Rng.left_eq {w : World} {m r : Nat} {T : Nat → Nat → Option Nat} {L : List (Nat × Nat)} {left : Nat → Nat → Bool} {c : Nat} (h : Rng w m r T L left c) : w.rangeLeft m r = c := by
  obtain ⟨⟨D, lf, h1, _⟩, _⟩ := h
  exact h1.left_eq
theorem Rng.lt {w : World} {m r : Nat} {T : Nat → Nat → Option Nat} {L : List (Nat × Nat)} {left : Nat → Nat → Bool} {c : Nat} (h : Rng w m r T L left c) : r < w.heap.size ∧ r ≠ m := by
  obtain ⟨⟨D, lf, h1, _⟩, _⟩ := h
  exact ⟨h1.lt, h1.ne⟩
theorem Rng.notCells {w : World} {m r : Nat} {T : Nat → Nat → Option Nat} {L : List (Nat × Nat)} {left : Nat → Nat → Bool} {c : Nat} (h : Rng w m r T L left c) {x : Array Value} {t : TypeId} {f : Nat × Nat} : w.heap[r]? ≠ some (.cells x t f) := by
  obtain ⟨⟨D, lf, ⟨es, cl, si, se, c0, q1, q2, q3, q4, q5, q6⟩, h2⟩, h6, h7, h8⟩ := h
  rw [q5]
  intro e
  cases e
theorem Tab.range {w : World} {m : Nat} {T : Nat → Nat → Option Nat} {L : List (Nat × Nat)} (h : Tab w m T L) :
    ∃ w', (Instr.range 61 (.map (some m))).run Try.prog w = .ok (.pointer (some ⟨w.heap.size, 0, none⟩)) w' ∧ Rng w' m w.heap.size T L (fun i j => (T i j).isSome) L.length ∧ w.grownBy w' none ∧ w'.heap.size = w.heap.size + 1 := by
  obtain ⟨⟨D, h1, h2, h3, h4⟩, h5, h6, h7⟩ := h
  obtain ⟨w', hrun, hr, hg, hs⟩ := h1.range law70 Try.underlying61
  rw [h2] at hr
  refine ⟨w', hrun, ⟨⟨D, _, hr, h2, h3, h4, fun i j hi hj => ?_⟩, h5, h6, h7⟩, hg, hs⟩
  cases hh : Maps.has D (key i j) with
  | false =>
    have := Maps.atKey_of_not_has hh .nil
    rw [h3 i j hi hj] at this
    rw [tileD_inj (b := none) this]
    rfl
  | true =>
    obtain ⟨i', j', a, b, e, n⟩ := h4 _ hh
    obtain ⟨rfl, rfl⟩ := key_inj (by omega) (by omega) (by omega) (by omega) e
    exact (Option.isSome_iff_ne_none.2 n).symm
/-- One struck off. -/
def strike (left : Nat → Nat → Bool) (i j : Nat) : Nat → Nat → Bool := fun i' j' => left i' j' && !(decide (i' = i ∧ j' = j))
theorem Rng.next {w : World} {m r : Nat} {T : Nat → Nat → Option Nat} {L : List (Nat × Nat)} {left : Nat → Nat → Bool} {c : Nat} (h : Rng w m r T L left c) (ty : TypeId) :
    ((∀ i j, i < 2048 → j < 2048 → left i j = false) ∧ (Instr.next (.pointer (some ⟨r, 0, none⟩)) false ty).run Try.prog w = .ok (.tuple #[.bool false]) w) ∨
    ∃ i j t w' c', i < 2048 ∧ j < 2048 ∧ T i j = some t ∧ left i j = true ∧ (Instr.next (.pointer (some ⟨r, 0, none⟩)) false ty).run Try.prog w = .ok (.tuple #[.bool true, .agg #[.int .i64 (i : Int), .int .i64 (j : Int)], .pointer (some ⟨t, 0, none⟩)]) w' ∧
      Rng w' m r T L (strike left i j) c' ∧ c' < c ∧ w.grownBy w' (some r) ∧ w'.heap.size = w.heap.size ∧ (Instr.entry (.pointer (some ⟨r, 0, none⟩))).run Try.prog w' = .ok (.tuple #[.agg #[.int .i64 (i : Int), .int .i64 (j : Int)], .pointer (some ⟨t, 0, none⟩)]) w' := by
  obtain ⟨⟨D, lf, h1, h2, h3, h4, h5⟩, h6, h7, h8⟩ := h
  rcases h1.next law70 ty with ⟨-, hl, hrun⟩ | ⟨ky, v, kl, y, w', c', hkey, hlk, hv, hat, hrun, hrg, hlt, hgr, hsz, hen⟩
  · exact Or.inl ⟨fun i j hi hj => by rw [← h5 i j (by omega) (by omega)]; exact hl _, hrun⟩
  · refine Or.inr ?_
    obtain ⟨i, j, hi, hj, rfl, hn⟩ := h4 kl (Maps.has_true_of_atKey hat)
    obtain ⟨t, ht⟩ := Option.ne_none_iff_exists'.1 hn
    have hky : ky = keyV i j := law70.inj hkey (keyOf_key i j (by omega) (by omega))
    obtain ⟨o, rfl, hy⟩ := tileR_inv hv
    have ho : o = some t := by
      have := hat .nil
      rw [h3 i j (by omega) (by omega), ht, hy] at this
      exact (tileD_inj this).symm
    subst ho
    subst hky
    refine ⟨i, j, t, w', c', hi, hj, ht, by rw [← h5 i j (by omega) (by omega)]; exact hlk, hrun, ⟨⟨D, _, hrg, h2, h3, h4, fun i' j' hi' hj' => ?_⟩, h6, h7, h8⟩, hlt, hgr, hsz, hen⟩
    show (lf (key i' j') && !(key i' j').sameKey (key i j)) = (left i' j' && !(decide (i' = i ∧ j' = j)))
    rw [h5 i' j' hi' hj']
    by_cases e : i' = i ∧ j' = j
    · obtain ⟨rfl, rfl⟩ := e
      simp [WideAt.sameKey_self (key_is i' j' (by omega) (by omega))]
    · rw [Maps.sameKey_ne (fun e2 => e (key_inj (by omega) (by omega) (by omega) (by omega) e2)), decide_eq_false e]
section
variable {ops : Array Oper} {rest : List Oper} {o : Oper} {a : Act} {w : World} {Q : Exit → Act → World → Prop}
theorem wpList_range61 (hgd : o.guard = none) (x : Operand) (ho : o.op = .range 61 x) (m : Nat) (T : Nat → Nat → Option Nat) (L : List (Nat × Nat)) (hx : a.eval x = .map (some m)) (hT : Tab w m T L)
    (h : ∀ w', Rng w' m w.heap.size T L (fun i j => (T i j).isSome) L.length → w.grownBy w' none → w'.heap.size = w.heap.size + 1 → wpList Try.prog ops Q rest (a.put o.dst (.pointer (some ⟨w.heap.size, 0, none⟩))) w') : wpList Try.prog ops Q (o :: rest) a w := by
  obtain ⟨w', hrun, h1, h2, h3⟩ := hT.range
  refine wpList_plain hgd fun K hK => ?_
  unfold Oper.wp
  simp [execOp, ho, hx, hrun, Result.andThen]
  exact hK _ _ (h w' h1 h2 h3)
theorem wpList_next61 (hgd : o.guard = none) (x : Operand) (ho : o.op = .next x false) (m r : Nat) (T : Nat → Nat → Option Nat) (L : List (Nat × Nat)) (left : Nat → Nat → Bool) (c : Nat) (hx : a.eval x = .pointer (some ⟨r, 0, none⟩)) (hT : Rng w m r T L left c)
    (h0 : (∀ i j, i < 2048 → j < 2048 → left i j = false) → wpList Try.prog ops Q rest (a.put o.dst (.tuple #[.bool false])) w)
    (h1 : ∀ (i j t : Nat) w' c', i < 2048 → j < 2048 → T i j = some t → left i j = true → Rng w' m r T L (strike left i j) c' → c' < c → w.grownBy w' (some r) → w'.heap.size = w.heap.size →
      (Instr.entry (.pointer (some ⟨r, 0, none⟩))).run Try.prog w' = .ok (.tuple #[.agg #[.int .i64 (i : Int), .int .i64 (j : Int)], .pointer (some ⟨t, 0, none⟩)]) w' →
      wpList Try.prog ops Q rest (a.put o.dst (.tuple #[.bool true, .agg #[.int .i64 (i : Int), .int .i64 (j : Int)], .pointer (some ⟨t, 0, none⟩)])) w') : wpList Try.prog ops Q (o :: rest) a w := by
  refine wpList_plain hgd fun K hK => ?_
  unfold Oper.wp
  rcases hT.next o.type with ⟨hl, hrun⟩ | ⟨i, j, t, w', c', hi, hj, ht, hl, hrun, hr, hlt, hg, hs, hen⟩
  · simp [execOp, ho, hx, hrun, Result.andThen]
    exact hK _ _ (h0 hl)
  · simp [execOp, ho, hx, hrun, Result.andThen]
    exact hK _ _ (h1 i j t w' c' hi hj ht hl hr hlt hg hs hen)
end
end Go.Proofs.Ytgonpaofickffaa
