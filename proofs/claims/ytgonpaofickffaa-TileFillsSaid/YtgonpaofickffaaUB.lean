/- Rows of planes that a law makes; what stands when none holds a tile. -/
import Derived.Test.YtgonpaofickffaaTY
namespace Go.Proofs.Ytgonpaofickffaa
open Go.RowKit Go.Maps
set_option linter.unusedVariables false

def ptr (p : Pl) : Value := .pointer (some ⟨p.pb, 0, none⟩)
def ptrs (ps : List Pl) : List Value := ps.map ptr
theorem ptrs_length (ps : List Pl) : (ptrs ps).length = ps.length := by simp [ptrs]
theorem ptrs_at {ps : List Pl} {j : Nat} {p : Pl} (h : ps[j]? = some p) : (ptrs ps)[j]? = some (ptr p) := by simp [ptrs, h]
theorem ptrs_set {ps : List Pl} {k : Nat} {p p' : Pl} (hk : ps[k]? = some p) (h : p'.pb = p.pb) : ptrs (ps.set k p') = ptrs ps := by
  unfold ptrs
  rw [List.map_set, show ptr p' = ptr p by unfold ptr; rw [h]]
  refine List.ext_getElem? (fun m => ?_)
  rw [List.getElem?_set]
  split
  · rename_i e
    subst e
    have hl := (List.getElem?_eq_some_iff.1 hk).1
    rw [if_pos (by simpa using hl), List.getElem?_map, hk]
    rfl
  · rfl
theorem info26 : (Try.prog.info? 26).map (fun i => (i.zero, i.size, i.bytes)) = some (some (.pointer none), 1, 8) := by kernel_rfl
theorem Rep.not_foot26 {w : World} {S : St} (h : Rep w S) {b : Nat} {c : Array Value} {f : Nat × Nat} (hb : w.heap[b]? = some (.cells c 26 f)) : ¬ Foot S b := by
  rintro (rfl | ⟨m, q, hq, rfl | rfl⟩ | hl)
  · have := h.arena
    rw [hb] at this
    cases this
  · exact (h.plane m q hq).2.1.notCells hb
  · have := (h.plane m q hq).1
    rw [PlaneAt, hb] at this
    cases this
  · obtain ⟨c', h1, h2, -⟩ := h.tile b hl
    rw [hb] at h1
    cases h1

/-- A row that points to planes, of the call's own. -/
def Row (w : World) (B : Nat) (v : Value) (ps : List Pl) : Prop := w.ownsRow B 26 1 v ps.length (ptrs ps)
theorem Row.block {w : World} {B : Nat} {v : Value} {ps : List Pl} (h : Row w B v ps) : ∀ g, v.ownBlock = some g → B ≤ g ∧ g < w.heap.size ∧ ∃ c f, w.heap[g]? = some (.cells c 26 f) := by
  intro g hg
  rcases h.2 with ⟨rfl, _⟩ | ⟨g', cap, cur, rfl, hb, hh, _⟩
  · cases hg
  · cases hg
    exact ⟨hb, lt_of_block hh, _, _, hh⟩
theorem Row.kept {w w' : World} {B : Nat} {v : Value} {ps : List Pl} (h : Row w B v ps) (hk : ∀ g, v.ownBlock = some g → w'.heap[g]? = w.heap[g]?) : Row w' B v ps := by
  obtain ⟨h1, h2⟩ := h
  refine ⟨h1, ?_⟩
  rcases h2 with h2 | ⟨g, cap, cur, rfl, hg, hh, r⟩
  · exact Or.inl h2
  · exact Or.inr ⟨g, cap, cur, rfl, hg, (hk g rfl).trans hh, r⟩
theorem Row.later {w w' : World} {B : Nat} {v : Value} {ps : List Pl} (h : Row w B v ps) (k : Keeps none' w w') : Row w' B v ps := h.kept (fun g hg => k.later g (h.block g hg).2.1)
theorem Row.keep {w w' : World} {S : St} {X : Nat → Prop} {B : Nat} {v : Value} {ps : List Pl} (h : Row w B v ps) (hr : Rep w S) (k : Keeps X w w') (hX : ∀ b, X b → Foot S b) : Row w' B v ps :=
  h.kept (fun g hg => by
    obtain ⟨-, hl, c, f, hb⟩ := h.block g hg
    exact k.block g hl (fun hx => hr.not_foot26 hb (hX g hx)))
theorem Row.set {w : World} {B : Nat} {v : Value} {ps : List Pl} (h : Row w B v ps) {k : Nat} {p p' : Pl} (hk : ps[k]? = some p) (hp : p'.pb = p.pb) : Row w B v (ps.set k p') := by
  unfold Row at h ⊢
  rw [ptrs_set hk hp, List.length_set]
  exact h
theorem Row.at {w : World} {B : Nat} {aa : Option Addr} {n cap : Nat} {ps : List Pl} (h : Row w B (.slice aa n cap) ps) {j : Nat} {p : Pl} (hj : ps[j]? = some p) : n = ps.length ∧ ∃ g, aa = some ⟨g, 0, none⟩ ∧ w.cell? ⟨g, j, none⟩ = some (.pointer (some ⟨p.pb, 0, none⟩)) := by
  obtain ⟨hl, h2⟩ := h
  have hjl := (List.getElem?_eq_some_iff.1 hj).1
  rcases h2 with ⟨e1, e2⟩ | ⟨g, cap, cur, e, hB, hh, p1, p2, p3, p4⟩
  · omega
  · cases e
    refine ⟨rfl, g, rfl, ?_⟩
    rw [cell_of_row _ _ _ _ _ _ hh]
    have : (ptrs ps)[j]? = (cur.toList.take (ps.length * 1))[j]? := by rw [p4]
    rw [List.getElem?_take_of_lt (by omega), ptrs_at hj] at this
    rw [← Array.getElem?_toList, ← this]
    rfl
theorem Row.one {w : World} {B : Nat} (hB : B ≤ w.heap.size) (p : Pl) : Row (w.alloc (.cells #[.pointer (some ⟨p.pb, 0, none⟩)] 26)) B (.slice (some ⟨w.heap.size, 0, none⟩) 1 1) [p] :=
  ⟨rfl, .inr ⟨w.heap.size, 1, #[.pointer (some ⟨p.pb, 0, none⟩)], rfl, hB, heap_alloc_new _ _, Nat.le_refl _, by unfold maxLen; decide, rfl, rfl⟩⟩

/-- append of one plane to such a row, as one step. -/
theorem run_append_ptr (w : World) (ty : TypeId) (base n : Nat) (v : Value) (ps : List Pl) (hown : Row w base v ps) (g m : Nat) (p : Pl) (hc : w.cell? ⟨g, 0, none⟩ = some (.pointer (some ⟨p.pb, 0, none⟩))) (hn : ps.length ≤ 33554432) (hbase : base ≤ w.heap.size) :
    ∃ aa cap w', (Builtin.append_ #[37, 37] ty #[v, .slice (some ⟨g, 0, none⟩) 1 1]).run Try.prog w = .ok (.slice aa (ps.length + 1) cap) w' ∧
      Row w' base (.slice aa (ps.length + 1) cap) (ps ++ [p]) ∧ w.grownBy w' v.ownBlock := by
  obtain ⟨i0, hi, hz0, hz1, hz2⟩ := info_parts info26
  obtain ⟨v', w', hr, h1, h2, h4, h5⟩ := run_append_own_at (P := Try.prog) w base 37 ty 26 i0 (.pointer none) 1 8 Try.underlying37 hi hz0 hz1 hz2 rfl (by decide) _ ps.length _ hown ⟨g, 0, none⟩ 1 1 [ptr p] rfl
    (by
      intro j u hj
      match j, hj with
      | 0, hj => cases hj; rw [add_spot]; exact hc
      | j + 1, hj => simp at hj)
    (by intro u hu; simp only [List.mem_singleton] at hu; subst hu; rfl) (by unfold maxLen; omega) (by omega) hbase
  have hv : ∃ aa cap, v' = .slice aa (ps.length + 1) cap := by
    rcases h1.2 with ⟨e, e2⟩ | ⟨g, cap, _, e, _⟩
    · exact ⟨none, 0, by rw [e, e2]⟩
    · exact ⟨_, _, e⟩
  obtain ⟨aa, cap, rfl⟩ := hv
  have e : ptrs ps ++ [ptr p] = ptrs (ps ++ [p]) := by simp [ptrs]
  rw [e] at h1
  refine ⟨aa, cap, w', hr, ?_, h2⟩
  unfold Row
  rw [List.length_append]
  exact h1
theorem wpList_append_ptr {w : World} {ops : Array Oper} {rest : List Oper} {o : Oper} {a : Act} {Q : Exit → Act → World → Prop} (hgd : o.guard = none) (s x : Operand) (ho : o.op = .call { callee := .builtin .append, args := #[s, x], argTypes := #[37, 37] })
    (base : Nat) (v : Value) (ps : List Pl) (hs : a.eval s = v) (hown : Row w base v ps)
    (g : Nat) (p : Pl) (hx : a.eval x = .slice (some ⟨g, 0, none⟩) 1 1) (hc : w.cell? ⟨g, 0, none⟩ = some (.pointer (some ⟨p.pb, 0, none⟩))) (hn : ps.length ≤ 33554432) (hbase : base ≤ w.heap.size)
    (h : ∀ aa cap w', Row w' base (.slice aa (ps.length + 1) cap) (ps ++ [p]) → w.grownBy w' v.ownBlock → wpList Try.prog ops Q rest (a.put o.dst (.slice aa (ps.length + 1) cap)) w') :
    wpList Try.prog ops Q (o :: rest) a w := by
  refine wpList_plain hgd fun K hK => ?_
  obtain ⟨aa, cap, w', hr, h1, h2⟩ := run_append_ptr w o.type base ps.length v ps hown g 1 p hc hn hbase
  unfold Oper.wp execOp
  simp only [ho, resolve, invoke, builtin, Sem.run_bind, Sem.run_pure, Result.andThen_ok, List.map_toArray, List.map_cons, List.map_nil, hs, hx, hr]
  exact hK _ _ (h aa cap w' h1 h2)

/-! ### A plane that holds nothing -/
theorem at_bare (w : World) (S : St) (h : Rep w S) (k : Nat) (p : Pl) (hk : S.ps[k]? = some p) (hT : ∀ i j, p.T i j = none) (x y : Nat) :
    Calls Try.prog 14 #[.pointer (some ⟨p.pb, 0, none⟩), .int .i64 (x : Int), .int .i64 (y : Int)] w fun e w' => e = .returned (.int .i64 0) ∧ Keeps none' w w' := by
  by_cases hi : x < p.W ∧ y < p.H
  · have e : px S p x y = 0 := by unfold px; rw [hT]
    exact (at_in w S h k p hk x y hi.1 hi.2).mono (fun _ _ ⟨h1, h2⟩ => ⟨by rw [h1, e]; rfl, h2⟩)
  · exact (at_out w S h k p hk x y (by omega)).mono (fun _ _ ⟨h1, h2⟩ => ⟨h1, h2 ▸ Keeps.refl _ _⟩)
/-- If no plane holds a tile, none is in use. -/
theorem Rep.bare {w : World} {S : St} (h : Rep w S) (hT : ∀ (k : Nat) p, S.ps[k]? = some p → ∀ i j, p.T i j = none) : S.free = S.cap := by
  have e : S.live = [] := List.eq_nil_iff_forall_not_mem.2 (fun t ht => by
    have h1 := h.used t ht
    unfold cnt at h1
    obtain ⟨p, hp, he⟩ := List.countP_pos_iff.1 h1
    obtain ⟨k, hk⟩ := List.getElem?_of_mem hp
    rw [hT k p hk] at he
    cases he)
  unfold St.free
  rw [e]
  rfl
theorem bare_tab {w : World} {S : St} (h : Rep w S) {k : Nat} {p : Pl} (hk : S.ps[k]? = some p) (hT : ∀ i j, p.T i j = none) : p.L = [] :=
  List.eq_nil_iff_forall_not_mem.2 (fun q hq => ((h.plane k p hk).2.1.ls q.1 q.2).1 hq (hT _ _))

/-- A state with a row of all its planes. -/
structure Fr (w : World) (A cap : Nat) (S : St) (v : Value) (wr : World) : Prop where
  rep : Rep wr S
  A : S.A = A
  cap : S.cap = cap
  low : Low S w.heap.size
  keeps : Keeps none' w wr
  row : Row wr w.heap.size v S.ps
theorem Fr.later {w wr w' : World} {A cap : Nat} {S : St} {v : Value} (h : Fr w A cap S v wr) (k : Keeps none' wr w') : Fr w A cap S v w' := ⟨h.rep.later k, h.A, h.cap, h.low, h.keeps.trans k (fun _ _ h => h), h.row.later k⟩
theorem Fr.step {w wr w' : World} {A cap k : Nat} {S S' : St} {v : Value} {p p' : Pl} (h : Fr w A cap S v wr) (hk : S.ps[k]? = some p) (hm : Mod wr.heap.size S S' k p p') (hr : Rep w' S') (hk2 : Keeps (Foot S) wr w') : Fr w A cap S' v w' :=
  ⟨hr, hm.A.trans h.A, hm.cap.trans h.cap, hm.low h.low h.keeps.size, h.keeps.over hk2 (fun b hb => h.low b hb), by rw [hm.ps]; exact (h.row.keep h.rep hk2 (fun _ h => h)).set hk hm.pb⟩
theorem Fr.drop {w wr w' : World} {A cap k : Nat} {S : St} {v : Value} {p : Pl} (h : Fr w A cap S v wr) (hk : S.ps[k]? = some p) (hr : Rep w' (S.drop k p)) (hk2 : Keeps (Foot S) wr w') : Fr w A cap (S.drop k p) v w' :=
  ⟨hr, h.A, h.cap, h.low.drop hk, h.keeps.over hk2 (fun b hb => h.low b hb), (h.row.keep h.rep hk2 (fun _ h => h)).set hk rfl⟩
theorem Fr.free {w wr : World} {A cap : Nat} {S : St} {v : Value} (h : Fr w A cap S v wr) : S.free ≤ cap := by
  have := h.cap
  unfold St.free
  omega
end Go.Proofs.Ytgonpaofickffaa
