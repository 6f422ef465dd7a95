/- Appending points, as the walk's step. -/
import Derived.Test.YtboocllckolmgaaY
namespace Go.Proofs.Ytboocllckolmgaa
open Go.RowKit
set_option linter.unusedVariables false

theorem append_pts (S E : TypeId) (hS : Try.prog.underlying S = some (.slice E)) (hE : (Try.prog.info? E).map (fun i => (i.zero, i.size, i.bytes)) = some (some (.agg #[.int .i64 0, .int .i64 0]), 2, 16))
    (w : World) (ty : TypeId) (base n : Nat) (v : Value) (ps qs : List Pt) (hown : w.ownsRow base E 2 v n (pcells ps)) (b off m c : Nat) (h0 : Pts w (some ⟨b, off, none⟩) m qs) (hf : ∀ p ∈ ps, Fits p) (hm : m ≤ 16777216) (hn : n ≤ 16777216) (hbase : base ≤ w.heap.size) :
    ∃ aa cap w', (Builtin.append_ #[S, S] ty #[v, .slice (some ⟨b, off, none⟩) m c]).run Try.prog w = .ok (.slice aa (n + m) cap) w' ∧ Pts w' aa (n + m) (ps ++ qs) ∧ Below base w w' := by
  obtain ⟨aa, cap, w', hr, k1, k2⟩ := run_append_pts S E hS hE w ty base n v ps qs hown b off m c h0 hm hn hbase
  have hfit : ∀ p ∈ ps ++ qs, Fits p := by
    intro p hp
    rw [List.mem_append] at hp
    rcases hp with hp | hp
    · exact hf p hp
    · exact h0.2.1 p hp
  refine ⟨aa, cap, w', hr, (pts_own k1 hfit).1, ⟨k2.os, k2.tape, k2.output, k2.size, fun k hk => k2.block k (Nat.lt_of_lt_of_le hk hbase) (fun e => ?_)⟩⟩
  have := (own_lt hown k e.symm).1
  omega
theorem wpList_append_pts (S E : TypeId) (hS : Try.prog.underlying S = some (.slice E)) (hE : (Try.prog.info? E).map (fun i => (i.zero, i.size, i.bytes)) = some (some (.agg #[.int .i64 0, .int .i64 0]), 2, 16))
    {w : World} {ops : Array Oper} {rest : List Oper} {o : Oper} {a : Act} {Q : Exit → Act → World → Prop} (hgd : o.guard = none) (s x : Operand) (ho : o.op = .call { callee := .builtin .append, args := #[s, x], argTypes := #[S, S] })
    (base n : Nat) (v : Value) (ps qs : List Pt) (hs : a.eval s = v) (hown : w.ownsRow base E 2 v n (pcells ps)) (b off m c : Nat) (hx : a.eval x = .slice (some ⟨b, off, none⟩) m c) (h0 : Pts w (some ⟨b, off, none⟩) m qs) (hf : ∀ p ∈ ps, Fits p) (hm : m ≤ 16777216) (hn : n ≤ 16777216) (hbase : base ≤ w.heap.size)
    (h : ∀ aa cap w', Pts w' aa (n + m) (ps ++ qs) → Below base w w' → wpList Try.prog ops Q rest (a.put o.dst (.slice aa (n + m) cap)) w') :
    wpList Try.prog ops Q (o :: rest) a w := by
  refine wpList_plain hgd fun K hK => ?_
  obtain ⟨aa, cap, w', hr, k1, k2⟩ := append_pts S E hS hE w o.type base n v ps qs hown b off m c h0 hf hm hn hbase
  unfold Oper.wp execOp
  simp only [ho, resolve, invoke, builtin, Sem.run_bind, Sem.run_pure, Result.andThen_ok, List.map_toArray, List.map_cons, List.map_nil, hs, hx, hr]
  exact hK _ _ (h aa cap w' k1 k2)
theorem step_append_pts (S E : TypeId) (hS : Try.prog.underlying S = some (.slice E)) (hE : (Try.prog.info? E).map (fun i => (i.zero, i.size, i.bytes)) = some (some (.agg #[.int .i64 0, .int .i64 0]), 2, 16))
    {w : World} {ops : Array Oper} {o : Oper} {a : Act} {K : Act → World → Prop} {Q : Exit → Act → World → Prop} {F : Prop} (hgd : o.guard = none) (s x : Operand) (ho : o.op = .call { callee := .builtin .append, args := #[s, x], argTypes := #[S, S] })
    (base n : Nat) (v : Value) (ps qs : List Pt) (hs : a.eval s = v) (hown : w.ownsRow base E 2 v n (pcells ps)) (b off m c : Nat) (hx : a.eval x = .slice (some ⟨b, off, none⟩) m c) (h0 : Pts w (some ⟨b, off, none⟩) m qs) (hf : ∀ p ∈ ps, Fits p) (hm : m ≤ 16777216) (hn : n ≤ 16777216) (hbase : base ≤ w.heap.size)
    (h : ∀ aa cap w', Pts w' aa (n + m) (ps ++ qs) → Below base w w' → K (a.put o.dst (.slice aa (n + m) cap)) w') :
    if Region.wanted o (yielded ops a.tmps) = true then Oper.wp Try.prog o a w K Q else F := by
  have hw : Region.wanted o (yielded ops a.tmps) = true := by simp [Region.wanted, hgd]
  rw [if_pos hw]
  obtain ⟨aa, cap, w', hr, k1, k2⟩ := append_pts S E hS hE w o.type base n v ps qs hown b off m c h0 hf hm hn hbase
  unfold Oper.wp execOp
  simp only [ho, resolve, invoke, builtin, Sem.run_bind, Sem.run_pure, Result.andThen_ok, List.map_toArray, List.map_cons, List.map_nil, hs, hx, hr]
  exact h aa cap w' k1 k2
/-- An empty row, and one of one point, just made. -/
theorem own_none (w : World) : (w.alloc (.cells #[] 37)).ownsRow w.heap.size 37 2 (.slice (some ⟨w.heap.size, 0, none⟩) 0 0) 0 (pcells []) :=
  ⟨rfl, .inr ⟨_, 0, #[], rfl, Nat.le_refl _, heap_alloc_new _ _, Nat.le_refl _, Nat.zero_le _, rfl, rfl⟩⟩
theorem own_single (w : World) (p : Pt) : (w.alloc (.cells #[.int .i64 p.X, .int .i64 p.Y] 37)).ownsRow w.heap.size 37 2 (.slice (some ⟨w.heap.size, 0, none⟩) 1 1) 1 (pcells [p]) :=
  ⟨rfl, .inr ⟨_, 1, _, rfl, Nat.le_refl _, heap_alloc_new _ _, Nat.le_refl _, by decide, rfl, rfl⟩⟩
end Go.Proofs.Ytboocllckolmgaa
