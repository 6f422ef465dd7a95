/- Points as cells; append of one; the copy of points that the law makes. -/
import Derived.Test.YtboocllckolmgaaR
namespace Go.Proofs.Ytboocllckolmgaa
open Go.RowKit
set_option linter.unusedVariables false

/-- Points as cells. -/
def pcell (p : Pt) : List Value := [.int .i64 p.X, .int .i64 p.Y]
def pcells : List Pt → List Value
  | [] => []
  | p :: ps => pcell p ++ pcells ps
theorem pcells_cons (p : Pt) (ps : List Pt) : pcells (p :: ps) = pcell p ++ pcells ps := rfl
theorem pcells_length (ps : List Pt) : (pcells ps).length = ps.length * 2 := by
  induction ps with
  | nil => rfl
  | cons p ps ih => rw [pcells_cons, List.length_append, ih, List.length_cons]; simp [pcell]; omega
theorem pcells_append (ps qs : List Pt) : pcells (ps ++ qs) = pcells ps ++ pcells qs := by
  induction ps with
  | nil => rfl
  | cons p ps ih => rw [List.cons_append, pcells_cons, pcells_cons, ih, List.append_assoc]
theorem pcells_at {ps : List Pt} {i : Nat} {p : Pt} (h : ps[i]? = some p) (r : Nat) (hr : r < 2) : (pcells ps)[i * 2 + r]? = (pcell p)[r]? := by
  induction ps generalizing i with
  | nil => simp at h
  | cons u ps ih =>
    rw [pcells_cons]
    cases i with
    | zero =>
      simp only [List.getElem?_cons_zero, Option.some.injEq] at h
      subst h
      rw [Nat.zero_mul, Nat.zero_add, List.getElem?_append_left (by simp [pcell]; omega)]
    | succ i =>
      rw [List.getElem?_cons_succ] at h
      rw [List.getElem?_append_right (by simp [pcell]; omega), ← ih h]
      congr 1
      simp [pcell]
      omega
/-- Cells that hold points. -/
theorem pts_cells {w : World} {g : Nat} {cs : Array Value} {ty : TypeId} {fr : Nat × Nat} {ps : List Pt} {m : Nat} (hh : w.heap[g]? = some (.cells cs ty fr)) (hc : cs.toList.take m = pcells ps) (hf : ∀ p ∈ ps, Fits p) : Pts w (some ⟨g, 0, none⟩) ps.length ps := by
  refine ⟨rfl, hf, fun _ => ⟨g, 0, rfl, fun i p hp => ?_⟩⟩
  have key : ∀ r, r < 2 → ∀ v, (pcell p)[r]? = some v → w.cell? ⟨g, 0 + i * 2 + r, none⟩ = some v := by
    intro r hr v hv
    rw [← pcells_at hp r hr, ← hc] at hv
    have hm : i * 2 + r < m := by
      have := (List.getElem?_eq_some_iff.1 hv).1
      rw [List.length_take] at this
      omega
    rw [List.getElem?_take_of_lt hm] at hv
    have hv2 : cs[i * 2 + r]? = some v := by simpa using hv
    simp [World.cell?, hh, hv2]
  exact ⟨key 0 (by omega) _ rfl, key 1 (by omega) _ rfl⟩
theorem pts_lit (w : World) (cs : Array Value) (ty : TypeId) (ps : List Pt) (hc : cs.toList = pcells ps) (hf : ∀ p ∈ ps, Fits p) : Pts (w.alloc (.cells cs ty)) (some ⟨w.heap.size, 0, none⟩) ps.length ps :=
  pts_cells (m := cs.toList.length) (heap_alloc_new _ _) (by rw [List.take_length]; exact hc) hf
/-- Points of the call's own, read. -/
theorem pts_own {w : World} {B c n : Nat} {E : TypeId} {aa : Option Addr} {ps : List Pt} (h : w.ownsRow B E 2 (.slice aa n c) n (pcells ps)) (hf : ∀ p ∈ ps, Fits p) : Pts w aa n ps ∧ ps.length = n ∧ (∀ x, aa = some x → B ≤ x.block) ∧ n ≤ c ∧ (aa = none → n = 0 ∧ c = 0) := by
  obtain ⟨hl, h2⟩ := h
  rw [pcells_length] at hl
  have hl2 : ps.length = n := by omega
  subst hl2
  rcases h2 with ⟨e, e2⟩ | ⟨g, cap, cur, e, hB, hh, p1, p2, p3, p4⟩
  · have : ps = [] := List.eq_nil_of_length_eq_zero e2
    subst this
    cases e
    exact ⟨⟨rfl, fun p hp => (by cases hp), fun hp => absurd hp (by simp)⟩, rfl, fun x hx => (by cases hx), Nat.le_refl _, fun _ => ⟨rfl, rfl⟩⟩
  · cases e
    exact ⟨pts_cells hh p4 hf, rfl, fun x hx => (by cases hx; exact hB), p1, fun h => (by cases h)⟩

theorem info31 : (Try.prog.info? 31).map (fun i => (i.zero, i.size, i.bytes)) = some (some (.agg #[.int .i64 0, .int .i64 0]), 2, 16) := by kernel_rfl
theorem info37 : (Try.prog.info? 37).map (fun i => (i.zero, i.size, i.bytes)) = some (some (.agg #[.int .i64 0, .int .i64 0]), 2, 16) := by kernel_rfl

theorem run_append_pt (S E : TypeId) (hS : Try.prog.underlying S = some (.slice E)) (hE : (Try.prog.info? E).map (fun i => (i.zero, i.size, i.bytes)) = some (some (.agg #[.int .i64 0, .int .i64 0]), 2, 16))
    (w : World) (ty : TypeId) (base n : Nat) (v : Value) (ps : List Pt) (p : Pt) (hown : w.ownsRow base E 2 v n (pcells ps)) (g c : Nat) (h0 : OnePt w g 0 p) (hn : n ≤ 16777216) (hbase : base ≤ w.heap.size) :
    ∃ aa cap w', (Builtin.append_ #[S, S] ty #[v, .slice (some ⟨g, 0, none⟩) 1 c]).run Try.prog w = .ok (.slice aa (n + 1) cap) w' ∧
      w'.ownsRow base E 2 (.slice aa (n + 1) cap) (n + 1) (pcells (ps ++ [p])) ∧ w.grownBy w' v.ownBlock ∧ ((Value.slice aa (n + 1) cap).ownBlock = v.ownBlock ∨ (Value.slice aa (n + 1) cap).ownBlock = some w.heap.size) := by
  obtain ⟨i0, hi, hz0, hz1, hz2⟩ := info_parts hE
  obtain ⟨c0, c1⟩ := h0
  obtain ⟨v', w', hr, k1, k2, k4, k5⟩ := run_append_own_at (P := Try.prog) w base S ty E i0 (.agg #[.int .i64 0, .int .i64 0]) 2 16 hS hi hz0 hz1 hz2 rfl (by decide) v n _ hown ⟨g, 0, none⟩ 1 c (pcell p) rfl
    (by
      intro j u hj
      rw [add_spot]
      match j, hj with
      | 0, hj => cases hj; exact c0
      | 1, hj => cases hj; exact c1
      | j + 2, hj => simp [pcell] at hj)
    (by intro u hu; simp only [pcell, List.mem_cons, List.not_mem_nil, or_false] at hu; rcases hu with rfl | rfl <;> rfl) (by unfold maxLen; omega) (by omega) hbase
  have hv : ∃ aa cap, v' = .slice aa (n + 1) cap := by
    rcases k1.2 with ⟨e, e2⟩ | ⟨g, cap, _, e, _⟩
    · omega
    · exact ⟨_, _, e⟩
  obtain ⟨aa, cap, rfl⟩ := hv
  have e : pcells ps ++ pcell p = pcells (ps ++ [p]) := by rw [pcells_append]; simp [pcells]
  rw [e] at k1
  exact ⟨aa, cap, w', hr, k1, k2, k5⟩
theorem wpList_append_pt (S E : TypeId) (hS : Try.prog.underlying S = some (.slice E)) (hE : (Try.prog.info? E).map (fun i => (i.zero, i.size, i.bytes)) = some (some (.agg #[.int .i64 0, .int .i64 0]), 2, 16))
    {w : World} {ops : Array Oper} {rest : List Oper} {o : Oper} {a : Act} {Q : Exit → Act → World → Prop} (hgd : o.guard = none) (s x : Operand) (ho : o.op = .call { callee := .builtin .append, args := #[s, x], argTypes := #[S, S] })
    (base n : Nat) (v : Value) (ps : List Pt) (p : Pt) (hs : a.eval s = v) (hown : w.ownsRow base E 2 v n (pcells ps)) (g c : Nat) (hx : a.eval x = .slice (some ⟨g, 0, none⟩) 1 c) (h0 : OnePt w g 0 p) (hn : n ≤ 16777216) (hbase : base ≤ w.heap.size)
    (h : ∀ aa cap w', w'.ownsRow base E 2 (.slice aa (n + 1) cap) (n + 1) (pcells (ps ++ [p])) → w.grownBy w' v.ownBlock → ((Value.slice aa (n + 1) cap).ownBlock = v.ownBlock ∨ (Value.slice aa (n + 1) cap).ownBlock = some w.heap.size) → wpList Try.prog ops Q rest (a.put o.dst (.slice aa (n + 1) cap)) w') :
    wpList Try.prog ops Q (o :: rest) a w := by
  refine wpList_plain hgd fun K hK => ?_
  obtain ⟨aa, cap, w', hr, k1, k2, k3⟩ := run_append_pt S E hS hE w o.type base n v ps p hown g c h0 hn hbase
  unfold Oper.wp execOp
  simp only [ho, resolve, invoke, builtin, Sem.run_bind, Sem.run_pure, Result.andThen_ok, List.map_toArray, List.map_cons, List.map_nil, hs, hx, hr]
  exact hK _ _ (h aa cap w' k1 k2 k3)
theorem one_pt (w : World) (p : Pt) (ty : TypeId) : OnePt (w.alloc (.cells #[.int .i64 p.X, .int .i64 p.Y] ty)) w.heap.size 0 p := by
  refine ⟨?_, ?_⟩ <;> (rw [World.cell?_alloc_mark]; rfl)

/-- A row of points that a call grows. -/
structure GrowP (B : Nat) (E : TypeId) (w : World) (v : Value) (ps : List Pt) (w' : World) : Prop where
  own : w'.ownsRow B E 2 v ps.length (pcells ps)
  old : Below B w w'
  low : B ≤ w.heap.size
theorem GrowP.nil (w : World) (E : TypeId) : GrowP w.heap.size E w (.slice none 0 0) [] w := ⟨⟨rfl, .inl ⟨rfl, rfl⟩⟩, Below.refl _ _, Nat.le_refl _⟩
theorem own_lt {w : World} {B n e k : Nat} {v : Value} {xs : List Value} (h : w.ownsRow B e k v n xs) : ∀ g, v.ownBlock = some g → B ≤ g ∧ g < w.heap.size := by
  intro g hg
  rcases h.2 with ⟨rfl, _⟩ | ⟨g, cap, cur, rfl, hb, hh, _⟩
  · cases hg
  · cases hg
    exact ⟨hb, lt_of_block hh⟩
theorem own_kept {w w' : World} {B n e k : Nat} {v : Value} {xs : List Value} (h : w.ownsRow B e k v n xs) (hk : ∀ g, v.ownBlock = some g → w'.heap[g]? = w.heap[g]?) : w'.ownsRow B e k v n xs := by
  obtain ⟨h1, h2⟩ := h
  refine ⟨h1, ?_⟩
  rcases h2 with h2 | ⟨g, cap, cur, rfl, hg, hh, r⟩
  · exact Or.inl h2
  · exact Or.inr ⟨g, cap, cur, rfl, hg, (hk g rfl).trans hh, r⟩
theorem GrowP.later {B : Nat} {E : TypeId} {w w1 w2 : World} {v : Value} {ps : List Pt} (h : GrowP B E w v ps w1) (hb : Below w1.heap.size w1 w2) : GrowP B E w v ps w2 :=
  ⟨own_kept h.own (fun g hg => hb.block g (own_lt h.own g hg).2), below_more h.old hb h.low, h.low⟩
theorem GrowP.grown {B : Nat} {E : TypeId} {w w1 w2 : World} {v v2 : Value} {ps qs : List Pt} (h : GrowP B E w v ps w1) (ho : w2.ownsRow B E 2 v2 qs.length (pcells qs)) (hg : w1.grownBy w2 v.ownBlock) : GrowP B E w v2 qs w2 :=
  ⟨ho, h.old.trans ⟨hg.os, hg.tape, hg.output, hg.size, fun k hk => hg.block k (Nat.lt_of_lt_of_le hk (Nat.le_trans h.low h.old.size)) (fun e => by have := (own_lt h.own k e.symm).1; omega)⟩, h.low⟩

/-- What a call tells: points, in memory of its own. -/
def ToldP (w : World) (ps : List Pt) (e : Ending) (w' : World) : Prop :=
  ∃ aa c, e = .returned (.slice aa ps.length c) ∧ Pts w' aa ps.length ps ∧ (∀ x, aa = some x → w.heap.size ≤ x.block) ∧ ps.length ≤ c ∧ (aa = none → ps.length = 0 ∧ c = 0) ∧ Below w.heap.size w w'

set_option maxHeartbeats 1600000 in
theorem plain_any (w : World) (a : Option Addr) (n c : Nat) (ps : List Pt) (h : Pts w a n ps) (hn : n ≤ 16777216) : Calls Try.prog 13 #[.slice a n c] w (ToldP w ps) := by
  have HP := Lib.hid h
  clear h
  go_enter Try.func13, Try.ntmps13
  go_wp2_with fail
  go_loopw [3, 8] (fun v cnt wr => ∃ (i : Nat) (aa : Option Addr) (cap : Nat), i ≤ n ∧ cnt = .int .i64 i ∧ v = .slice aa i cap ∧ (ps.take i).length = i ∧ GrowP w.heap.size 31 w (.slice aa i cap) (ps.take i) wr) (fun _ cnt _ => n - (intOf cnt).toNat)
  case atStart => exact ⟨0, none, 0, Nat.zero_le _, rfl, rfl, rfl, GrowP.nil w 31⟩
  case round =>
    obtain ⟨i, aa, cap, hi, rfl, rfl, hti, hg⟩ := hrel
    by_cases hlt : i < n
    · obtain ⟨b, off, p, rfl, hp, hfit, c0, c1⟩ := (HP.out.below ⟨hg.old.os, hg.old.tape, hg.old.output, hg.old.size, hg.old.block⟩).at hlt
      have b1 : Below wr.heap.size wr ((wr.alloc (.cells #[.int .i64 p.X, .int .i64 p.Y] 37)).alloc (.cells #[.int .i64 p.X, .int .i64 p.Y] 31)) := ((Below.refl _ _).alloc (Nat.le_refl _) _).alloc (by simp) _
      have GP := Lib.hid (hg.later b1)
      have OP := Lib.hid (one_pt (wr.alloc (.cells #[.int .i64 p.X, .int .i64 p.Y] 37)) p 31)
      have HPP := Lib.hid (And.intro hp hti)
      have hwl : w.heap.size ≤ wr.heap.size := hg.old.size
      clear hg hp hfit hti b1
      go_wp2_with (at_builtin; go_must (refine wpList_append_pt 27 31 Try.underlying27 info31 rfl (.tmp 12) (.tmp 18) rfl w.heap.size i (.slice aa i cap) (ps.take i) p rfl ?g1 (wr.heap.size + 1) 1 rfl ?g2 (by omega) ?g3 ?g4))
      case g1 => have := GP.out.own; rwa [HPP.out.2] at this
      case g2 => have := OP.out; simp only [World.alloc, Array.size_push] at this ⊢; exact this
      case g3 => simp; omega
      case g4 =>
        intro aa2 cap2 w3 hown hg hat
        have e : ps.take (i + 1) = ps.take i ++ [p] := take_more HPP.out.1
        have el : (ps.take (i + 1)).length = i + 1 := by rw [e, List.length_append, HPP.out.2]; rfl
        have GP3 := Lib.hid (show GrowP w.heap.size 31 w (.slice aa2 (i + 1) cap2) (ps.take (i + 1)) w3 from GP.out.grown (by rw [el, e]; exact hown) hg)
        have EL := Lib.hid el
        clear hown hg hat e el
        go_wp2_with fail
        go_roundw
        case rel => exact ⟨i + 1, aa2, cap2, hlt, by go_num, rfl, EL.out, GP3.out⟩
        case measure => simp [intOf]; omega
    · obtain rfl : i = n := by omega
      rw [List.take_of_length_le (by rw [HP.out.1]; exact Nat.le_refl _)] at hg hti
      have hown := hg.own
      rw [hti] at hown
      have k := pts_own hown HP.out.2.1
      have X := Lib.hid (show ToldP w ps (.returned (.slice aa i cap)) wr from by
        refine ⟨aa, cap, by rw [hti], ?_, k.2.2.1, by rw [hti]; exact k.2.2.2.1, by rw [hti]; exact k.2.2.2.2, hg.old⟩
        rw [hti]; exact k.1)
      clear hg hti hown k
      go_wp2_with fail
      go_ret
      exact X.out
end Go.Proofs.Ytboocllckolmgaa
