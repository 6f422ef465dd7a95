/- The iterators over places. -/
import Derived.Test.YtgonpaofickffaaTM
import Derived.RangeFuncNested
import Derived.RangeFuncBound
import Derived.RangeFuncCalls
import Derived.RangeFuncLeaves
import Derived.Shelf.Abstract
import Derived.Shelf.RegionOpen
import Derived.Sort.MapsRangeIn
import Derived.OwnWalkIn
import Derived.TacticsInMore
import Derived.LoopNIn
import Derived.LoopIn
namespace Go.Proofs.Ytgonpaofickffaa
open Go.RowKit Go.Maps Go.Shelf
attribute [local go_sem] Oper.semAt_some
set_option linter.unusedVariables false

/-- What a round that goes on keeps: maps, walks over them, stretches. -/
def KpT (W W' : World) : Prop := KeepsWalks W W' ∧ ∀ (b : Nat) c f, W.heap[b]? = some (.cells c 79 f) → W'.heap[b]? = W.heap[b]?
theorem KpT.t {A B C : World} (h : KpT A B) (k : KpT B C) : KpT A C := ⟨h.1.trans k.1, fun b c f e => (k.2 b c f ((h.2 b c f e).trans e)).trans (h.2 b c f e)⟩
theorem KpT.b {w : World} (W : World) (l : Nat) (o o' : Obj) (_ : w.heap.size ≤ l) (h : W.heap[l]? = some o) (hc : o.isCells = false) (hw : o.isWalk = false) : KpT W (W.putObj l o') :=
  ⟨KeepsWalks.putObj _ h hw, fun b c f e => World.putObj_heap_other (fun e2 => by subst e2; rw [h] at e; cases e; cases hc)⟩
theorem KpT.keeps {W W' : World} (h : Keeps none' W W') : KpT W W' := ⟨⟨h.size, fun k o hk _ => (h.later k (Array.getElem?_eq_some_iff.1 hk).1).trans hk⟩, fun b c f e => h.later b (lt_of_block e)⟩

/-- A place, as an iterator gives it. -/
abbrev Plc := { q : Nat × Nat // q.1 < 2048 ∧ q.2 < 2048 }
abbrev encP (x : Plc) : Array Value := #[.agg #[.int .i64 (x.1.1 : Int), .int .i64 (x.1.2 : Int)]]

section
variable {F : Fence} {n : Nat} {ops : Array Oper} {rest : List Oper} {o : Oper} {a : Act} {w : World} {Q : Exit → Act → World → Prop}
theorem wpListIn_range61 (hgd : o.guard = none) (x : Operand) (ho : o.op = .range 61 x) (m : Nat) (T : Nat → Nat → Option Nat) (L : List (Nat × Nat)) (hx : a.eval x = .map (some m)) (hT : Tab w m T L)
    (h : ∀ w', Rng w' m w.heap.size T L (fun i j => (T i j).isSome) L.length → w.grownBy w' none → w'.heap.size = w.heap.size + 1 → wpListIn F n Try.prog ops Q rest (a.put o.dst (.pointer (some ⟨w.heap.size, 0, none⟩))) w') : wpListIn F n Try.prog ops Q (o :: rest) a w := by
  obtain ⟨w', hrun, h1, h2, h3⟩ := hT.range
  refine wpListIn_plain hgd fun K hK => ?_
  unfold Oper.wpIn
  refine ⟨by simp [Oper.about, ho], ?_⟩
  rw [Oper.semAt_plain F _ _ (by rw [ho]; intro c hc; cases hc)]
  simp [execOp, ho, hx, hrun, Result.andThen]
  exact hK _ _ (h w' h1 h2 h3)
theorem wpListIn_next61 (hgd : o.guard = none) (x : Operand) (ho : o.op = .next x false) (m r : Nat) (T : Nat → Nat → Option Nat) (L : List (Nat × Nat)) (left : Nat → Nat → Bool) (c : Nat) (hx : a.eval x = .pointer (some ⟨r, 0, none⟩)) (hT : Rng w m r T L left c)
    (h0 : (∀ i j, i < 2048 → j < 2048 → left i j = false) → wpListIn F n Try.prog ops Q rest (a.put o.dst (.tuple #[.bool false])) w)
    (h1 : ∀ (i j t : Nat) w' c', i < 2048 → j < 2048 → T i j = some t → left i j = true → Rng w' m r T L (strike left i j) c' → c' < c → w.grownBy w' (some r) → w'.heap.size = w.heap.size →
      (Instr.entry (.pointer (some ⟨r, 0, none⟩))).run Try.prog w' = .ok (.tuple #[.agg #[.int .i64 (i : Int), .int .i64 (j : Int)], .pointer (some ⟨t, 0, none⟩)]) w' →
      wpListIn F n Try.prog ops Q rest (a.put o.dst (.tuple #[.bool true, .agg #[.int .i64 (i : Int), .int .i64 (j : Int)], .pointer (some ⟨t, 0, none⟩)])) w') : wpListIn F n Try.prog ops Q (o :: rest) a w := by
  refine wpListIn_plain hgd fun K hK => ?_
  unfold Oper.wpIn
  refine ⟨by simp [Oper.about, ho], ?_⟩
  rw [Oper.semAt_plain F _ _ (by rw [ho]; intro c hc; cases hc)]
  rcases hT.next o.type with ⟨hl, hrun⟩ | ⟨i, j, t, w', c', hi, hj, ht, hl, hrun, hr, hlt, hg, hs, hen⟩
  · simp [execOp, ho, hx, hrun, Result.andThen]
    exact hK _ _ (h0 hl)
  · simp [execOp, ho, hx, hrun, Result.andThen]
    exact hK _ _ (h1 i j t w' c' hi hj ht hl hr hlt hg hs hen)
end
theorem Rng.kp {w w' : World} {m r : Nat} {T : Nat → Nat → Option Nat} {L : List (Nat × Nat)} {left : Nat → Nat → Bool} {c : Nat} (h : Rng w m r T L left c) (hk : KpT w w') : Rng w' m r T L left c := by
  obtain ⟨⟨D, lf, h1, h2⟩, h6, h7, h8⟩ := h
  exact ⟨⟨D, lf, h1.of_walks hk.1, h2⟩, h6, h7, h8⟩
theorem Rng.walk {w : World} {m r : Nat} {T : Nat → Nat → Option Nat} {L : List (Nat × Nat)} {left : Nat → Nat → Bool} {c : Nat} (h : Rng w m r T L left c) : ∃ o : Obj, w.heap[r]? = some o ∧ o.isWalk = true := by
  obtain ⟨⟨D, lf, h1, h2⟩, h6, h7, h8⟩ := h
  exact h1.iter_walk

/-- What came: places of the table, no one twice; and all of them in the end. -/
def Came (T : Nat → Nat → Option Nat) (left : Nat → Nat → Bool) (xs : List Plc) : Prop := xs.Nodup ∧ ∀ i j, i < 2048 → j < 2048 → ((∃ h, (⟨(i, j), h⟩ : Plc) ∈ xs) ↔ T i j ≠ none ∧ left i j = false)
/-- An iterator over a list with all places that matter. -/
def Gives (Chg : Nat → Nat → Prop) (xs : List Plc) : Prop := xs.Nodup ∧ ∀ i j, Chg i j → ∃ h, (⟨(i, j), h⟩ : Plc) ∈ xs

set_option maxRecDepth 100000 in
set_option maxHeartbeats 1600000 in
theorem keys1_in (l Bm m : Nat) (T : Nat → Nat → Option Nat) (L : List (Nat × Nat)) (N : Nat) (hN : L.length ≤ N) (J Jx : List Plc → World → Prop)
    (hY : ∀ pre x W, J pre W → pre.length < N → YieldAt Fence.wide (1 - 1) Try.prog l (encP x) W fun e W' =>
      (e = .returned (.bool true) ∧ J (pre ++ [x]) W' ∧ KpT W W') ∨ (e = .returned (.bool false) ∧ Jx (pre ++ [x]) W'))
    (W : World) (hJ : AbidesFrom W.heap.size J) (hm : W.cell? ⟨Bm, 0, none⟩ = some (.map (some m))) (hT : Tab W m T L) (h0 : J [] W) :
    CallsIn Fence.wide 1 Try.prog 52 #[.func (.yield l) #[] #[], .pointer (some ⟨Bm, 0, none⟩)] W fun e W' => (∃ v, e = .returned v) ∧
      ((∃ xs, Gives (fun i j => T i j ≠ none) xs ∧ J xs W') ∨ (∃ pre : List Plc, pre.Nodup ∧ Jx pre W')) := by
  refine callsIn_of_wp Try.func52 rfl trivial ?_ rfl
  simp only [Try.ntmps52, List.size_toArray, List.length_cons, List.length_nil, Nat.reduceAdd, Nat.reduceSub, Array.replicate_succ, Array.replicate_zero, List.push_toArray, List.append_toArray, List.nil_append, List.cons_append]
  gi_wp2_with (first
    | (gi_at_range; refine wpListIn_range61 rfl _ rfl m T L rfl hT ?_; intro w0 hrg0 hg0 hs0)
    | gi_in)
  go_frame
  gi_loopw [3] (fun _ wr => ∃ (left : Nat → Nat → Bool) (c : Nat) (xs : List Plc), Rng wr m W.heap.size T L left c ∧ xs.length + c ≤ L.length ∧ Came T left xs ∧ J xs wr)
    (fun _ wr => wr.rangeLeft m W.heap.size)
  case atStart =>
    exact ⟨_, _, [], hrg0, by simp, ⟨List.nodup_nil, fun i j _ _ => by simp⟩, hJ [] W w0 none h0 hg0 (fun r e => by cases e)⟩
  case round =>
    obtain ⟨left, c, xs, hrg, hcs, hC, hJs⟩ := hrel
    gi_wp2_with (first
      | (gi_at_next; refine wpListIn_next61 rfl _ rfl m W.heap.size T L left c rfl hrg ?_ ?_)
      | gi_in)
    · intro hl0
      gi_wp2
      go_end0
      exact ⟨⟨_, rfl⟩, .inl ⟨xs, ⟨hC.1, fun i j h => by
        have hr := hrg.rng i j h
        exact (hC.2 i j hr.1 hr.2).2 ⟨h, hl0 i j hr.1 hr.2⟩⟩, hJs⟩⟩
    · intro i j t w2 c2 hi hj ht hl hrg2 hlt hg2 hs2 hen
      have hJ2 : J xs w2 := hJ xs wr w2 (some W.heap.size) hJs hg2 (fun r e => by cases e; exact ⟨Nat.le_refl _, hrg.walk⟩)
      have hJ3 : J xs (w2.alloc (.cells #[.int .i64 (i : Int), .int .i64 (j : Int)] 70)) := hJ xs w2 _ none hJ2 (World.grownBy_alloc _ _ _) (fun r e => by cases e)
      obtain ⟨fn, tmps, assign, body, hy, hR⟩ := hY xs ⟨(i, j), hi, hj⟩ _ hJ3 (by omega)
      dsimp only [encP] at hy
      have hC2 : Came T (strike left i j) (xs ++ [⟨(i, j), hi, hj⟩]) := by
        refine ⟨List.nodup_append.2 ⟨hC.1, by simp, fun a ha b hb e => ?_⟩, fun i' j' hi' hj' => ?_⟩
        · rw [List.mem_singleton] at hb
          rw [e, hb] at ha
          have := ((hC.2 i j hi hj).1 ⟨_, ha⟩).2
          rw [hl] at this
          cases this
        · constructor
          · rintro ⟨h, hmem⟩
            rcases List.mem_append.1 hmem with h1 | h1
            · obtain ⟨q1, q2⟩ := (hC.2 i' j' hi' hj').1 ⟨h, h1⟩
              exact ⟨q1, by simp [strike, q2]⟩
            · rw [List.mem_singleton] at h1
              cases h1
              exact ⟨by rw [ht]; simp, by simp [strike]⟩
          · rintro ⟨q1, q2⟩
            by_cases e : i' = i ∧ j' = j
            · obtain ⟨rfl, rfl⟩ := e
              exact ⟨⟨hi, hj⟩, by simp⟩
            · have : left i' j' = false := by simpa [strike, e] using q2
              obtain ⟨h, h1⟩ := (hC.2 i' j' hi' hj').2 ⟨q1, this⟩
              exact ⟨h, by simp [h1]⟩
      have HX := Lib.hid (And.intro hrg2 (And.intro hlt (And.intro hC2 (And.intro hrg.left_eq (And.intro hcs hrg)))))
      clear hs2 hrg2 hlt hC2 hrg hC hJ3 hJ2 hJs hl ht hcs
      gi_wp2
      refine hR.mono ?_
      rintro e W3 (⟨rfl, hJ3, hk3⟩ | ⟨rfl, hJx3⟩)
      · gi_wp2
        obtain ⟨hrg2, hlt, hC2, hle, hcs, hrg⟩ := HX.out
        have hrg3 := (hrg2.keep (w' := w2.alloc (.cells #[.int .i64 (i : Int), .int .i64 (j : Int)] 70)) (Below.heap_alloc _ _ _ hrg2.tab.lt) (Below.heap_alloc _ _ _ hrg2.lt.1)).kp hk3
        go_roundw
        case rel => exact ⟨_, c2, xs ++ [⟨(i, j), hi, hj⟩], hrg3, by simp; omega, hC2, hJ3⟩
        case measure => rw [hrg3.left_eq, hle]; exact hlt
      · gi_wp2
        obtain ⟨hrg2, hlt, hC2, hle, hcs, hrg⟩ := HX.out
        refine bodyPost_ret (results_none rfl _ _ _) rfl ?_
        exact ⟨⟨_, rfl⟩, .inr ⟨xs ++ [⟨(i, j), hi, hj⟩], hC2.1, hJx3⟩⟩
end Go.Proofs.Ytgonpaofickffaa
