/- Texts of a layer, one behind the other. -/
import Derived.Test.YtfcpbpfemmdklaaGreatMAa
import Derived.Lib.SliceRun
import Derived.Lib.AppendZeros
import Derived.Lib.Overlaps
import Derived.Laws.IdiomCopy
import Derived.Lib.AppendZerosOnto
/- The way to a home: rows with a hole; what becomes of a tree in memory when one home changes. -/
namespace Go.Proofs.YtfcpbpfemmdklaaGreat.Tr
open Go.RowKit
set_option linter.unusedSimpArgs false
set_option linter.unusedVariables false

/-- A row with a hole: a layer in it whose kids are told elsewhere. -/
structure Frm where
  h : Hd
  pre : List Loc
  d : Dat
  p : Hd
  m : Hd
  q : Hd
  post : List Loc
def Frm.row (f : Frm) (k : Hd) (kids : List Loc) : List Loc := f.pre ++ .mk f.d f.p f.m f.q k kids :: f.post
def plugH : List Frm → Hd → Hd
  | [], h => h
  | f :: C, h => plugH C f.h
def plugL : List Frm → Hd → List Loc → List Loc
  | [], h, ls => ls
  | f :: C, h, ls => plugL C f.h (f.row h ls)
def kbOf (R : Nat) : List Frm → Nat
  | [] => R
  | f :: C => f.h.b
def koOf : List Frm → Nat
  | [] => 3
  | f :: C => f.h.o + f.pre.length * 19 + 18
def idOf : List Frm → Int
  | [] => 0
  | f :: C => f.d.id
/-- The blocks of what lies outside the home. -/
def Frm.rest (f : Frm) : List Nat := f.h.blk ++ (blks f.pre ++ (f.p.blk ++ (f.m.blk ++ (f.q.blk ++ blks f.post))))
def outs : List Frm → List Nat
  | [] => []
  | f :: C => f.rest ++ outs C
theorem blks_cons (d : Dat) (p m q k : Hd) (kids ls : List Loc) : blks (.mk d p m q k kids :: ls) = p.blk ++ (m.blk ++ (q.blk ++ (k.blk ++ (blks kids ++ blks ls)))) := by
  unfold blks
  rw [hds]
  simp [List.flatMap_append]
theorem plug_perm : ∀ (C : List Frm) (h : Hd) (ls : List Loc), ((plugH C h).blk ++ blks (plugL C h ls)).Perm ((h.blk ++ blks ls) ++ outs C)
  | [], h, ls => by simp [plugH, plugL, outs]
  | f :: C, h, ls => by
    refine (plug_perm C f.h (f.row h ls)).trans ?_
    rw [List.perm_iff_count]
    intro a
    simp only [outs, Frm.rest, Frm.row, blks_append, blks_cons, List.count_append]
    omega
/-- What lies outside the home. -/
def CtxOwn (B : Nat) (w : World) : List Frm → Hd → Prop
  | [], _ => True
  | f :: C, h => OwnR B w 51 19 f.h (flat (f.row h [])) ∧ Own B w f.pre ∧ OwnR B w 3 1 f.p (ints f.d.p) ∧ OwnR B w 5 1 f.m (bytes f.d.mask) ∧ OwnR B w 3 1 f.q (ints f.d.pars) ∧ Own B w f.post ∧ CtxOwn B w C f.h
theorem flat_row (f : Frm) (h : Hd) (ls : List Loc) : flat (f.row h ls) = flat (f.row h []) := by
  unfold Frm.row
  rw [flat_append, flat_append]
  rfl
theorem own_cons {B : Nat} {w : World} {d : Dat} {p m q k : Hd} {kids ls : List Loc} : Own B w (.mk d p m q k kids :: ls) ↔ OwnR B w 3 1 p (ints d.p) ∧ OwnR B w 5 1 m (bytes d.mask) ∧ OwnR B w 3 1 q (ints d.pars) ∧ OwnR B w 51 19 k (flat kids) ∧ Own B w kids ∧ Own B w ls := by
  unfold Own
  rw [All]
theorem own_append {B : Nat} {w : World} {xs ys : List Loc} : Own B w (xs ++ ys) ↔ Own B w xs ∧ Own B w ys := All.append
theorem ctx_iff (B : Nat) (w : World) : ∀ (C : List Frm) (h : Hd) (ls : List Loc), (OwnR B w 51 19 (plugH C h) (flat (plugL C h ls)) ∧ Own B w (plugL C h ls)) ↔ (OwnR B w 51 19 h (flat ls) ∧ Own B w ls ∧ CtxOwn B w C h)
  | [], h, ls => by simp [plugH, plugL, CtxOwn]
  | f :: C, h, ls => by
    rw [plugH, plugL, ctx_iff B w C f.h (f.row h ls), CtxOwn, flat_row f h ls]
    rw [show Own B w (f.row h ls) ↔ _ from own_append, own_cons]
    constructor
    · rintro ⟨h1, ⟨h2, h3, h4, h5, h6, h7, h8⟩, h9⟩
      exact ⟨h6, h7, h1, h2, h3, h4, h5, h8, h9⟩
    · rintro ⟨h6, h7, h1, h2, h3, h4, h5, h8, h9⟩
      exact ⟨h1, ⟨h2, h3, h4, h5, h6, h7, h8⟩, h9⟩
theorem OwnR.keepB {X : Nat → Prop} {B : Nat} {w w' : World} {e k : Nat} {h : Hd} {vs : List Value} (o : OwnR B w e k h vs) (kk : Keeps X w w') (hX : ∀ b ∈ h.blk, ¬ X b) : OwnR B w' e k h vs :=
  o.keep kk (fun x hx => hX _ (by unfold Hd.blk; rw [hx]; simp))
theorem CtxOwn.keep {X : Nat → Prop} {B : Nat} {w w' : World} (kk : Keeps X w w') : ∀ {C : List Frm} {h : Hd}, CtxOwn B w C h → (∀ b ∈ outs C, ¬ X b) → CtxOwn B w' C h
  | [], h, c, hX => by rw [CtxOwn]; trivial
  | f :: C, h, c, hX => by
    rw [CtxOwn] at c ⊢
    obtain ⟨c1, c2, c3, c4, c5, c6, c7⟩ := c
    have hX2 : ∀ b, b ∈ f.rest ∨ b ∈ outs C → ¬ X b := fun b hb => hX b (by rw [outs]; exact List.mem_append.2 hb)
    refine ⟨c1.keepB kk (fun b hb => hX2 b (.inl ?_)), c2.keep kk (fun b hb => hX2 b (.inl ?_)), c3.keepB kk (fun b hb => hX2 b (.inl ?_)), c4.keepB kk (fun b hb => hX2 b (.inl ?_)), c5.keepB kk (fun b hb => hX2 b (.inl ?_)), c6.keep kk (fun b hb => hX2 b (.inl ?_)), CtxOwn.keep kk c7 (fun b hb => hX2 b (.inr hb))⟩ <;> (unfold Frm.rest; simp [hb])
/-- A layer's header of its kids, set anew in its row. -/
theorem flat_setk (f : Frm) (h h' : Hd) : (flat (f.row h [])).set (f.pre.length * 19 + 18) (.slice h'.a h'.n h'.c) = flat (f.row h' []) := by
  unfold Frm.row
  rw [flat_append, flat_append, List.set_append_right _ _ (by rw [flat_length]; omega), flat_length, show f.pre.length * 19 + 18 - f.pre.length * 19 = 18 by omega, flat, flat]
  rfl
theorem OwnR.set1 {B : Nat} {w w' : World} {h : Hd} {vs : List Value} {i : Nat} {v : Value} (o : OwnR B w 51 19 h vs) (hi : i < vs.length) (h1 : v.oneCell' = true)
    (hk : w'.heap[h.b]? = (w.setCell ⟨h.b, h.o + i, none⟩ v).heap[h.b]?) : OwnR B w' 51 19 h (vs.set i v) := by
  have hl := o.1.1
  refine ⟨⟨by rw [List.length_set]; exact hl, ?_⟩, fun u hu => ?_, o.2.2⟩
  · obtain ⟨a, n, c⟩ := h
    rcases o.1.2 with ⟨-, e0⟩ | ⟨g, c', cur, e, hB, hh, p1, p2, p3, p4⟩
    · have e0' : n = 0 := e0
      subst e0'
      have hl' : vs.length = 0 * 19 := hl
      omega
    · simp only [Value.slice.injEq, true_and] at e
      obtain ⟨rfl, rfl⟩ := e
      have hk' : w'.heap[g]? = (w.setCell ⟨g, 0 + i, none⟩ v).heap[g]? := hk
      rw [Nat.zero_add, block_set hh] at hk'
      refine .inr ⟨g, c, cur.setIfInBounds i v, rfl, hB, hk', p1, p2, by rw [Array.size_setIfInBounds]; exact p3, ?_⟩
      rw [Array.toList_setIfInBounds, ← p4, List.take_set]
  · rcases List.mem_or_eq_of_mem_set hu with hu | rfl
    · exact o.2.1 u hu
    · exact h1
theorem OwnR.blk_eq {B : Nat} {w : World} {h : Hd} {vs : List Value} (o : OwnR B w 51 19 h vs) (hn : 0 < vs.length) : h.blk = [h.b] ∧ h.o = 0 := by
  have hl := o.1.1
  obtain ⟨a, n, c⟩ := h
  have hl2 : vs.length = n * 19 := hl
  have hn' : 0 < (⟨a, n, c⟩ : Hd).n := by
    show 0 < n
    rcases Nat.eq_zero_or_pos n with e | e
    · rw [e] at hl2; omega
    · exact e
  obtain ⟨g, c', cur, e, -⟩ := o.some hn'
  simp only [Hd.mk.injEq] at e
  obtain ⟨rfl, -, -⟩ := e
  exact ⟨rfl, rfl⟩
theorem row_pos (f : Frm) (h : Hd) (ls : List Loc) : f.pre.length * 19 + 18 < (flat (f.row h ls)).length := by
  rw [flat_length, Frm.row, List.length_append, List.length_cons]
  omega
/-- A home's header set anew in the row that it stands in. -/
theorem ctx_swap {X : Nat → Prop} {B : Nat} {w w' : World} {f : Frm} {C : List Frm} {h : Hd} (h' : Hd) (c : CtxOwn B w (f :: C) h) (k : Keeps X w w') (nd : (outs (f :: C)).Nodup) (hX : ∀ b ∈ outs (f :: C), b ≠ f.h.b → ¬ X b)
    (hk : w'.heap[f.h.b]? = (w.setCell ⟨f.h.b, koOf (f :: C), none⟩ (.slice h'.a h'.n h'.c)).heap[f.h.b]?) : CtxOwn B w' (f :: C) h' := by
  rw [CtxOwn] at c ⊢
  obtain ⟨c1, c2, c3, c4, c5, c6, c7⟩ := c
  obtain ⟨eb, eo⟩ := c1.blk_eq (by have := row_pos f h []; omega)
  have row := c1.set1 (w' := w') (i := f.pre.length * 19 + 18) (v := .slice h'.a h'.n h'.c) (row_pos f h []) rfl (by simpa [koOf, eo] using hk)
  rw [flat_setk] at row
  rw [outs, Frm.rest, eb] at nd
  simp only [List.singleton_append, List.cons_append, List.append_assoc] at nd
  have nd2 : ∀ b, b ∈ blks f.pre ∨ b ∈ f.p.blk ∨ b ∈ f.m.blk ∨ b ∈ f.q.blk ∨ b ∈ blks f.post ∨ b ∈ outs C → b ≠ f.h.b := by
    intro b hb e
    have h1 := (List.nodup_cons.1 nd).1
    refine h1 ?_
    rw [← e]
    simp only [List.mem_append]
    exact .inr hb
  have hX2 : ∀ b, b ∈ blks f.pre ∨ b ∈ f.p.blk ∨ b ∈ f.m.blk ∨ b ∈ f.q.blk ∨ b ∈ blks f.post ∨ b ∈ outs C → ¬ X b := by
    intro b hb
    refine hX b ?_ (nd2 b hb)
    rw [outs, Frm.rest]
    simp only [List.append_assoc, List.mem_append]
    exact .inr hb
  exact ⟨row, c2.keep k (fun b hb => hX2 b (by simp [hb])), c3.keepB k (fun b hb => hX2 b (by simp [hb])), c4.keepB k (fun b hb => hX2 b (by simp [hb])), c5.keepB k (fun b hb => hX2 b (by simp [hb])), c6.keep k (fun b hb => hX2 b (by simp [hb])), c7.keep k (fun b hb => hX2 b (by simp [hb]))⟩
/-- A document in memory: its block R, and all its layers in blocks of their own. -/
structure Whole (B : Nat) (w : World) (R : Nat) (x y z : Int) (h : Hd) (ls : List Loc) : Prop where
  doc : w.heap[R]? = some (.cells #[.int .i64 x, .int .i64 y, .int .i64 z, .slice h.a h.n h.c] 26 (0, 0))
  row : OwnR B w 51 19 h (flat ls)
  own : Own B w ls
  nodup : (h.blk ++ blks ls).Nodup
  out : R ∉ h.blk ++ blks ls
theorem Whole.nd {B : Nat} {w : World} {R : Nat} {x y z : Int} {C : List Frm} {h : Hd} {ls : List Loc} (W : Whole B w R x y z (plugH C h) (plugL C h ls)) : ((h.blk ++ blks ls) ++ outs C).Nodup := (plug_perm C h ls).nodup_iff.1 W.nodup
theorem Whole.out' {B : Nat} {w : World} {R : Nat} {x y z : Int} {C : List Frm} {h : Hd} {ls : List Loc} (W : Whole B w R x y z (plugH C h) (plugL C h ls)) : R ∉ (h.blk ++ blks ls) ++ outs C := fun hm => W.out ((plug_perm C h ls).mem_iff.2 hm)
theorem Whole.ctx {B : Nat} {w : World} {R : Nat} {x y z : Int} {C : List Frm} {h : Hd} {ls : List Loc} (W : Whole B w R x y z (plugH C h) (plugL C h ls)) : OwnR B w 51 19 h (flat ls) ∧ Own B w ls ∧ CtxOwn B w C h := (ctx_iff B w C h ls).1 ⟨W.row, W.own⟩
theorem Whole.mk' {B : Nat} {w : World} {R : Nat} {x y z : Int} {C : List Frm} {h : Hd} {ls : List Loc} (doc : w.heap[R]? = some (.cells #[.int .i64 x, .int .i64 y, .int .i64 z, .slice (plugH C h).a (plugH C h).n (plugH C h).c] 26 (0, 0)))
    (row : OwnR B w 51 19 h (flat ls)) (own : Own B w ls) (c : CtxOwn B w C h) (nd : ((h.blk ++ blks ls) ++ outs C).Nodup) (out : R ∉ (h.blk ++ blks ls) ++ outs C) : Whole B w R x y z (plugH C h) (plugL C h ls) :=
  ⟨doc, ((ctx_iff B w C h ls).2 ⟨row, own, c⟩).1, ((ctx_iff B w C h ls).2 ⟨row, own, c⟩).2, (plug_perm C h ls).nodup_iff.2 nd, fun hm => out ((plug_perm C h ls).mem_iff.1 hm)⟩
/-- A home turned, its header too. -/
theorem Whole.swap {X : Nat → Prop} {B : Nat} {w w' : World} {R : Nat} {x y z : Int} {C : List Frm} {h : Hd} {ls : List Loc} (h' : Hd) (ls' : List Loc) (W : Whole B w R x y z (plugH C h) (plugL C h ls)) (k : Keeps X w w')
    (hX : ∀ b, (b = R ∨ b ∈ outs C) → b ≠ kbOf R C → ¬ X b) (hk : w'.heap[kbOf R C]? = (w.setCell ⟨kbOf R C, koOf C, none⟩ (.slice h'.a h'.n h'.c)).heap[kbOf R C]?)
    (row : OwnR B w' 51 19 h' (flat ls')) (own : Own B w' ls') (nd : (h'.blk ++ blks ls').Nodup) (new : ∀ b ∈ h'.blk ++ blks ls', b ≠ R ∧ b ∉ outs C) : Whole B w' R x y z (plugH C h') (plugL C h' ls') := by
  have nd0 := W.nd
  have out0 := W.out'
  obtain ⟨-, -, c0⟩ := W.ctx
  have ndo : (outs C).Nodup := (List.nodup_append.1 nd0).2.1
  have outo : R ∉ outs C := fun hm => out0 (List.mem_append.2 (.inr hm))
  have nd1 : ((h'.blk ++ blks ls') ++ outs C).Nodup := List.nodup_append.2 ⟨nd, ndo, fun a ha b hb e => (new a ha).2 (e ▸ hb)⟩
  have out1 : R ∉ (h'.blk ++ blks ls') ++ outs C := fun hm => (List.mem_append.1 hm).elim (fun hm => (new R hm).1 rfl) outo
  cases C with
  | nil =>
    refine Whole.mk' ?_ row own (by rw [CtxOwn]; trivial) nd1 out1
    have hk' : w'.heap[R]? = (w.setCell ⟨R, 3, none⟩ (.slice h'.a h'.n h'.c)).heap[R]? := hk
    rw [hk', block_set W.doc]
    rfl
  | cons f C =>
    have c1 : CtxOwn B w' (f :: C) h' := ctx_swap h' c0 k ndo (fun b hb hne => hX b (.inr hb) hne) hk
    refine Whole.mk' ?_ row own c1 nd1 out1
    have hne : R ≠ f.h.b := by
      intro e
      rw [CtxOwn] at c0
      obtain ⟨eb, -⟩ := c0.1.blk_eq (by have := row_pos f h []; omega)
      exact outo (by rw [outs, Frm.rest, eb, e]; simp)
    exact (k.block R (lt_of_block W.doc) (hX R (.inl rfl) hne)).trans W.doc
/-- A home turned, its header as it was. -/
theorem Whole.swap0 {X : Nat → Prop} {B : Nat} {w w' : World} {R : Nat} {x y z : Int} {C : List Frm} {h : Hd} {ls : List Loc} (ls' : List Loc) (W : Whole B w R x y z (plugH C h) (plugL C h ls)) (k : Keeps X w w')
    (hX : ∀ b, (b = R ∨ b ∈ outs C) → ¬ X b)
    (row : OwnR B w' 51 19 h (flat ls')) (own : Own B w' ls') (nd : (h.blk ++ blks ls').Nodup) (new : ∀ b ∈ h.blk ++ blks ls', b ≠ R ∧ b ∉ outs C) : Whole B w' R x y z (plugH C h) (plugL C h ls') := by
  have nd0 := W.nd
  have out0 := W.out'
  obtain ⟨-, -, c0⟩ := W.ctx
  have ndo : (outs C).Nodup := (List.nodup_append.1 nd0).2.1
  have outo : R ∉ outs C := fun hm => out0 (List.mem_append.2 (.inr hm))
  refine Whole.mk' ((k.block R (lt_of_block W.doc) (hX R (.inl rfl))).trans W.doc) row own (c0.keep k (fun b hb => hX b (.inr hb))) ?_ ?_
  · exact List.nodup_append.2 ⟨nd, ndo, fun a ha b hb e => (new a ha).2 (e ▸ hb)⟩
  · exact fun hm => (List.mem_append.1 hm).elim (fun hm => (new R hm).1 rfl) outo
end Go.Proofs.YtfcpbpfemmdklaaGreat.Tr

/- A layer found by its number, in plain words and in memory. -/
namespace Go.Proofs.YtfcpbpfemmdklaaGreat.Tr
open Go.RowKit
set_option linter.unusedSimpArgs false
set_option linter.unusedVariables false

/-- A row with a hole, in plain words. -/
structure PFrm where
  pre : List Lay
  d : Dat
  post : List Lay
def plugP : List PFrm → List Lay → List Lay
  | [], ls => ls
  | f :: C, ls => plugP C (f.pre ++ .mk f.d ls :: f.post)
/-- Where a layer stands: the way to its home, what stands ahead of it, what it has, its kids, what stands behind it. -/
structure At' where
  C : List PFrm
  pre : List Lay
  d : Dat
  kids : List Lay
  post : List Lay
/-- The first layer of a number, each ahead of the ones within it. -/
def go (id : Int) : List PFrm → List Lay → List Lay → Option At'
  | _, _, [] => none
  | C, pre, .mk d kids :: ls => if d.id = id then some ⟨C, pre, d, kids, ls⟩ else
    match go id (⟨pre, d, ls⟩ :: C) [] kids with
    | some r => some r
    | none => go id C (pre ++ [.mk d kids]) ls
def fnd (id : Int) (ls : List Lay) : Option At' := go id [] [] ls
theorem go_plug (id : Int) : ∀ (n : Nat) (ls : List Lay), SizeOf.sizeOf ls ≤ n → ∀ (C : List PFrm) (pre : List Lay) (r : At'), go id C pre ls = some r → plugP r.C (r.pre ++ .mk r.d r.kids :: r.post) = plugP C (pre ++ ls) ∧ r.d.id = id
  | 0, ls, hs, _, _, _, _ => by cases ls <;> simp at hs
  | n + 1, [], hs, C, pre, r, h => by rw [go] at h; cases h
  | n + 1, .mk d kids :: ls, hs, C, pre, r, h => by
    rw [go] at h
    simp only [List.cons.sizeOf_spec, Lay.mk.sizeOf_spec] at hs
    by_cases hd : d.id = id
    · rw [if_pos hd] at h
      cases h
      exact ⟨rfl, hd⟩
    · rw [if_neg hd] at h
      cases hk : go id (⟨pre, d, ls⟩ :: C) [] kids with
      | some r' =>
        rw [hk] at h
        cases h
        obtain ⟨h1, h2⟩ := go_plug id n kids (by omega) _ _ _ hk
        exact ⟨by rw [h1]; rfl, h2⟩
      | none =>
        rw [hk] at h
        obtain ⟨h1, h2⟩ := go_plug id n ls (by omega) _ _ _ h
        exact ⟨by rw [h1]; simp, h2⟩
theorem fnd_plug {id : Int} {ls : List Lay} {r : At'} (h : fnd id ls = some r) : plugP r.C (r.pre ++ .mk r.d r.kids :: r.post) = ls ∧ r.d.id = id := by
  have := go_plug id _ ls (Nat.le_refl _) [] [] r h
  simpa [plugP] using this
def Frm.er (f : Frm) : PFrm := ⟨Go.Proofs.YtfcpbpfemmdklaaGreat.Tr.er f.pre, f.d, Go.Proofs.YtfcpbpfemmdklaaGreat.Tr.er f.post⟩
theorem er_row (f : Frm) (h : Hd) (ls : List Loc) : er (f.row h ls) = f.er.pre ++ .mk f.er.d (er ls) :: f.er.post := by
  unfold Frm.row
  rw [er_append, er]
  rfl
theorem er_plug : ∀ (C : List Frm) (h : Hd) (ls : List Loc), er (plugL C h ls) = plugP (C.map Frm.er) (er ls)
  | [], h, ls => rfl
  | f :: C, h, ls => by rw [plugL, er_plug C f.h (f.row h ls), er_row]; rfl
theorem er_cons (l : Loc) (ls : List Loc) : er (l :: ls) = .mk l.dat (er l.kids) :: er ls := by cases l; rw [er]; rfl
/-- A spot and the way to it. -/
def sptOf (R : Nat) (C : List Frm) (h : Hd) (i : Nat) (l : Loc) : Spt := ⟨idOf C, kbOf R C, koOf C, C.length, i, l, h.b, h.o + i * 19⟩
theorem find_append (id : Int) (xs ys : List Spt) : findP id (xs ++ ys) = (findP id xs).or (findP id ys) := by unfold findP; rw [List.find?_append]
theorem find_go (id : Int) (R : Nat) : ∀ (n : Nat) (ls : List Loc), SizeOf.sizeOf ls ≤ n → ∀ (C : List Frm) (pre : List Loc) (h : Hd),
    (findP id (sps (idOf C) (kbOf R C) (koOf C) C.length h.b h.o pre.length ls) = none ∧ go id (C.map Frm.er) (er pre) (er ls) = none) ∨
    ∃ C' pre' l post h', findP id (sps (idOf C) (kbOf R C) (koOf C) C.length h.b h.o pre.length ls) = some (sptOf R C' h' pre'.length l) ∧ go id (C.map Frm.er) (er pre) (er ls) = some ⟨C'.map Frm.er, er pre', l.dat, er l.kids, er post⟩ ∧
      plugH C' h' = plugH C h ∧ plugL C' h' (pre' ++ l :: post) = plugL C h (pre ++ ls)
  | 0, ls, hs, _, _, _ => by cases ls <;> simp at hs
  | n + 1, [], hs, C, pre, h => by
    refine .inl ⟨?_, ?_⟩
    · rw [sps]; rfl
    · rw [er, go]
  | n + 1, .mk d p m q k kids :: ls, hs, C, pre, h => by
    simp only [List.cons.sizeOf_spec, Loc.mk.sizeOf_spec] at hs
    rw [sps, er, go]
    by_cases hd : d.id = id
    · refine .inr ⟨C, pre, .mk d p m q k kids, ls, h, ?_, ?_, rfl, rfl⟩
      · exact findP_some (q := []) (fun x hx => by cases hx) hd
      · rw [if_pos hd]; rfl
    · rw [if_neg hd]
      have e1 : ∀ xs ys : List Spt, findP id (⟨idOf C, kbOf R C, koOf C, C.length, pre.length, .mk d p m q k kids, h.b, h.o + pre.length * 19⟩ :: (xs ++ ys)) = (findP id xs).or (findP id ys) := by
        intro xs ys
        rw [← find_append]
        unfold findP
        rw [List.find?_cons]
        have : ((Loc.mk d p m q k kids).dat.id == id) = false := by simpa [Loc.dat] using hd
        simp [this]
      rw [e1]
      rcases find_go id R n kids (by omega) (⟨h, pre, d, p, m, q, ls⟩ :: C) [] k with ⟨a1, a2⟩ | ⟨C', pre', l, post, h', a1, a2, a3, a4⟩
      · have a1' : findP id (sps d.id h.b (h.o + pre.length * 19 + 18) (C.length + 1) k.b k.o 0 kids) = none := a1
        have a2' : go id (⟨er pre, d, er ls⟩ :: C.map Frm.er) [] (er kids) = none := by simpa [er, Frm.er] using a2
        rw [a1', a2', Option.none_or]
        have b := find_go id R n ls (by omega) C (pre ++ [.mk d p m q k kids]) h
        rw [List.length_append, List.length_singleton, er_append] at b
        have e2 : er [Loc.mk d p m q k kids] = [Lay.mk d (er kids)] := by rw [er, er]
        rw [e2, List.append_assoc] at b
        exact b
      · have a1' : findP id (sps d.id h.b (h.o + pre.length * 19 + 18) (C.length + 1) k.b k.o 0 kids) = some (sptOf R C' h' pre'.length l) := a1
        have a2' : go id (⟨er pre, d, er ls⟩ :: C.map Frm.er) [] (er kids) = some ⟨C'.map Frm.er, er pre', l.dat, er l.kids, er post⟩ := by simpa [er, Frm.er] using a2
        rw [a1', a2', Option.some_or]
        exact .inr ⟨C', pre', l, post, h', rfl, rfl, a3, a4⟩
/-- A document's layer of a number. -/
theorem find_doc (id : Int) (R : Nat) (h : Hd) (ls : List Loc) :
    (findP id (sps 0 R 3 0 h.b h.o 0 ls) = none ∧ fnd id (er ls) = none) ∨
    ∃ C pre l post h', findP id (sps 0 R 3 0 h.b h.o 0 ls) = some (sptOf R C h' pre.length l) ∧ fnd id (er ls) = some ⟨C.map Frm.er, er pre, l.dat, er l.kids, er post⟩ ∧ plugH C h' = h ∧ plugL C h' (pre ++ l :: post) = ls := by
  rcases find_go id R _ ls (Nat.le_refl _) [] [] h with ⟨a, b⟩ | ⟨C', pre', l, post, h', a1, a2, a3, a4⟩
  · exact .inl ⟨a, by simpa [er, fnd] using b⟩
  · exact .inr ⟨C', pre', l, post, h', a1, by simpa [er, fnd] using a2, a3, a4⟩
end Go.Proofs.YtfcpbpfemmdklaaGreat.Tr

/- Trees in plain words: their numbers, what a change at one place leaves; the edits. -/
namespace Go.Proofs.YtfcpbpfemmdklaaGreat.Tr
open Go.RowKit
set_option linter.unusedSimpArgs false
set_option linter.unusedVariables false

/-- What all layers have, each ahead of the ones within it. -/
def dats : List Lay → List Dat
  | [] => []
  | .mk d kids :: ls => d :: (dats kids ++ dats ls)
theorem dats_append : ∀ (xs ys : List Lay), dats (xs ++ ys) = dats xs ++ dats ys
  | [], ys => by rw [dats]; rfl
  | .mk d kids :: xs, ys => by rw [List.cons_append, dats, dats, dats_append xs ys]; simp
def datsC : List PFrm → List Dat
  | [] => []
  | f :: C => f.d :: (dats f.pre ++ (dats f.post ++ datsC C))
theorem dats_plug : ∀ (C : List PFrm) (xs : List Lay), (dats (plugP C xs)).Perm (dats xs ++ datsC C)
  | [], xs => by simp [plugP, datsC]
  | f :: C, xs => by
    refine (dats_plug C _).trans ?_
    rw [dats_append, dats, datsC]
    have e : (dats f.pre ++ f.d :: (dats xs ++ dats f.post)).Perm (dats xs ++ (f.d :: (dats f.pre ++ dats f.post))) := by
      refine List.perm_middle.trans ?_
      refine ((List.Perm.cons f.d ?_).trans List.perm_middle.symm)
      rw [← List.append_assoc, ← List.append_assoc]
      exact List.perm_append_comm.append_right _
    refine (e.append_right _).trans ?_
    simp
theorem go_none (id : Int) : ∀ (n : Nat) (ls : List Lay), SizeOf.sizeOf ls ≤ n → ∀ (C : List PFrm) (pre : List Lay), go id C pre ls = none ↔ ∀ d ∈ dats ls, d.id ≠ id
  | 0, ls, hs, _, _ => by cases ls <;> simp at hs
  | n + 1, [], hs, C, pre => by rw [go, dats]; simp
  | n + 1, .mk d kids :: ls, hs, C, pre => by
    simp only [List.cons.sizeOf_spec, Lay.mk.sizeOf_spec] at hs
    rw [go, dats]
    by_cases hd : d.id = id
    · rw [if_pos hd]
      simp [hd]
    · rw [if_neg hd]
      have h1 := go_none id n kids (by omega) (⟨pre, d, ls⟩ :: C) []
      have h2 := go_none id n ls (by omega) C (pre ++ [.mk d kids])
      cases hk : go id (⟨pre, d, ls⟩ :: C) [] kids with
      | some r =>
        rw [hk] at h1
        constructor
        · intro h; cases h
        · intro h
          have := h1.2 (fun x hx => h x (by simp [hx]))
          cases this
      | none =>
        rw [hk] at h1
        simp only
        rw [h2]
        constructor
        · intro h x hx
          rcases List.mem_cons.1 hx with rfl | hx
          · exact hd
          · rcases List.mem_append.1 hx with hx | hx
            · exact h1.1 rfl x hx
            · exact h x hx
        · intro h x hx
          exact h x (by simp [hx])
theorem fnd_none {id : Int} {ls : List Lay} : fnd id ls = none ↔ ∀ d ∈ dats ls, d.id ≠ id := go_none id _ ls (Nat.le_refl _) [] []
/-- The layers within, and outside: all. -/
theorem fnd_dats {id : Int} {ls : List Lay} {r : At'} (h : fnd id ls = some r) : (dats ls).Perm (dats r.pre ++ (r.d :: (dats r.kids ++ dats r.post)) ++ datsC r.C) := by
  have := dats_plug r.C (r.pre ++ .mk r.d r.kids :: r.post)
  rw [(fnd_plug h).1, dats_append, dats] at this
  exact this
/-- Numbers that stand once, none of them 0. -/
structure Uniq (ls : List Lay) : Prop where
  nodup : ((dats ls).map (·.id)).Nodup
  pos : ∀ d ∈ dats ls, d.id ≠ 0
theorem uniq_dat {xs : List Dat} (h : (xs.map (·.id)).Nodup) {a b : Dat} (ha : a ∈ xs) (hb : b ∈ xs) (e : a.id = b.id) : a = b := by
  induction xs with
  | nil => cases ha
  | cons x xs ih =>
    rw [List.map_cons, List.nodup_cons] at h
    rcases List.mem_cons.1 ha with rfl | ha2 <;> rcases List.mem_cons.1 hb with rfl | hb2
    · rfl
    · exact (h.1 (List.mem_map.2 ⟨b, hb2, e.symm⟩)).elim
    · exact (h.1 (List.mem_map.2 ⟨a, ha2, e⟩)).elim
    · exact ih h.2 ha2 hb2
def pcnt (ls : List Lay) : Nat := (dats ls).length
theorem cnt_er : ∀ (n : Nat) (ls : List Loc), SizeOf.sizeOf ls ≤ n → cnt ls = pcnt (er ls)
  | 0, ls, hs => by cases ls <;> simp at hs
  | n + 1, [], hs => by rw [cnt, er, pcnt, dats]; rfl
  | n + 1, .mk d p m q k kids :: ls, hs => by
    simp only [List.cons.sizeOf_spec, Loc.mk.sizeOf_spec] at hs
    have h1 := cnt_er n kids (by omega)
    have h2 := cnt_er n ls (by omega)
    rw [cnt, er, h1, h2]
    unfold pcnt
    rw [dats]
    simp
theorem cnt_eq (ls : List Loc) : cnt ls = pcnt (er ls) := cnt_er _ ls (Nat.le_refl _)
/-- How deep the layers stand, below a home of this depth. -/
def dps : Nat → List Lay → List Nat
  | _, [] => []
  | n, .mk d kids :: ls => (n + 1) :: (dps (n + 1) kids ++ dps n ls)
def deepP (n : Nat) (ls : List Lay) : Nat := (dps n ls).foldl max n
theorem dps_sps : ∀ (n : Nat) (ls : List Loc), SizeOf.sizeOf ls ≤ n → ∀ (hid : Int) (kb ko dep b o i : Nat), (sps hid kb ko dep b o i ls).map (fun X => X.dep + 1) = dps dep (er ls)
  | 0, ls, hs, _, _, _, _, _, _, _ => by cases ls <;> simp at hs
  | n + 1, [], hs, _, _, _, _, _, _, _ => by rw [sps, er, dps]; rfl
  | n + 1, .mk d p m q k kids :: ls, hs, hid, kb, ko, dep, b, o, i => by
    simp only [List.cons.sizeOf_spec, Loc.mk.sizeOf_spec] at hs
    rw [sps, er, dps, List.map_cons, List.map_append, dps_sps n kids (by omega), dps_sps n ls (by omega)]
theorem deep_er (hid : Int) (kb ko dep b o : Nat) (ls : List Loc) : deepS dep (sps hid kb ko dep b o 0 ls) = deepP dep (er ls) := by
  unfold deepS deepP
  rw [← dps_sps _ ls (Nat.le_refl _) hid kb ko dep b o 0, List.foldl_map]
end Go.Proofs.YtfcpbpfemmdklaaGreat.Tr

/- What edits do to a tree, in plain words (adding, deleting, moving). -/
namespace Go.Proofs.YtfcpbpfemmdklaaGreat.Tr
open Go.RowKit
set_option linter.unusedSimpArgs false
set_option linter.unusedVariables false

def sideP (n : Int) : Bool := decide (1 ≤ n) && decide (n ≤ 32768)
def areaP (w h : Int) : Bool := sideP w && (sideP h && decide (w * h ≤ 4194304))
/-- A group, or the root, in which layers may stand. -/
def homeP (to : Int) (ls : List Lay) : Except Int (List PFrm × List Lay) :=
  if to = 0 then .ok ([], ls) else
  match fnd to ls with
  | none => .error 40
  | some r => if r.d.kind = 1 then .ok (⟨r.pre, r.d, r.post⟩ :: r.C, r.kids) else .error 41
def pidOf : List PFrm → Int
  | [] => 0
  | f :: _ => f.d.id
def insAt (at_ : Int) (l : Lay) (ls : List Lay) : List Lay := if at_ = -1 then ls ++ [l] else ls.take at_.toNat ++ l :: ls.drop at_.toNat
/-- An edit. -/
structure PEd where
  kind : Int
  id : Int
  to : Int
  at_ : Int
  n : Int
  m : Int
  x : Int
  y : Int
  w : Int
  h : Int
  p : List Int
  shape : List (Int × Int)
  ma : Int
  mb : Int
  mc : Int
  md : Int
  me : Int
  mf : Int
  pars : List Int
def freshD (z : Int) (n w h : Int) : Dat := if n = 0 then ⟨z, n, false, 255, 0, w, h, List.replicate (w * h).toNat 0, [], 65536, 0, 0, 65536, 0, 0, false, 2, []⟩ else ⟨z, n, false, 255, 0, 0, 0, [], [], 65536, 0, 0, 65536, 0, 0, false, 2, []⟩
theorem freshD_id (z n w h : Int) : (freshD z n w h).id = z := by unfold freshD; split <;> rfl
def addP (z : Int) (ls : List Lay) (to at_ n w h : Int) : Except Int (List Lay) :=
  if ¬ (0 ≤ n ∧ n ≤ 2) then .error 41 else if n = 0 ∧ areaP w h = false then .error 31 else
  match homeP to ls with
  | .error f => .error f
  | .ok (C, kids) => if at_ < -1 ∨ (kids.length : Int) < at_ then .error 43 else if 4096 ≤ pcnt ls ∨ 64 ≤ C.length then .error 31 else .ok (plugP C (insAt at_ (.mk (freshD z n w h) []) kids))
def removeP (ls : List Lay) (id : Int) : Except Int (List Lay) :=
  match fnd id ls with
  | none => .error 40
  | some r => .ok (plugP r.C (r.pre ++ r.post))
def heightP (n : Nat) (kids : List Lay) : Nat := deepP (n + 1) kids - n
def moveP (ls : List Lay) (id to at_ : Int) : Except Int (List Lay) :=
  match fnd id ls with
  | none => .error 40
  | some r =>
    match homeP to ls with
    | .error f => .error f
    | .ok (C, kids) =>
      if r.d.id = to ∨ (fnd to r.kids).isSome = true then .error 42 else
      if at_ < -1 ∨ ((kids.length : Int) - (if pidOf r.C = pidOf C then 1 else 0)) < at_ then .error 43 else
      if 64 < C.length + heightP r.C.length r.kids then .error 31 else
      match homeP to (plugP r.C (r.pre ++ r.post)) with
      | .error f => .error f
      | .ok (C', kids') => .ok (plugP C' (insAt at_ (.mk r.d r.kids) kids'))
/-- What the trees of documents have, whatever edits were done. -/
structure Good (z : Int) (ls : List Lay) : Prop where
  nodup : ((dats ls).map (·.id)).Nodup
  range : ∀ d ∈ dats ls, 1 ≤ d.id ∧ d.id < z
  cnt : pcnt ls ≤ 4096
  one : 1 ≤ z
theorem dats_rest {id : Int} {ls : List Lay} {r : At'} (h : fnd id ls = some r) : (dats ls).Perm (dats (plugP r.C (r.pre ++ r.post)) ++ r.d :: dats r.kids) := by
  refine (fnd_dats h).trans (List.Perm.trans ?_ ((dats_plug r.C (r.pre ++ r.post)).append_right _).symm)
  rw [dats_append]
  have e : (dats r.pre ++ r.d :: (dats r.kids ++ dats r.post)).Perm ((dats r.pre ++ dats r.post) ++ r.d :: dats r.kids) := by
    rw [List.append_assoc]
    refine List.Perm.append_left _ ?_
    have : (dats r.post ++ r.d :: dats r.kids).Perm (r.d :: dats r.kids ++ dats r.post) := List.perm_append_comm
    exact this.symm
  refine (e.append_right _).trans ?_
  rw [List.append_assoc (dats r.pre ++ dats r.post), List.append_assoc (dats r.pre ++ dats r.post)]
  exact List.Perm.append_left _ List.perm_append_comm
theorem homeP_mem {to : Int} {ls : List Lay} {x : List PFrm × List Lay} (h : homeP to ls = .ok x) (h0 : to ≠ 0) : ∃ r, fnd to ls = some r ∧ r.d.kind = 1 ∧ x = (⟨r.pre, r.d, r.post⟩ :: r.C, r.kids) := by
  unfold homeP at h
  rw [if_neg h0] at h
  cases hf : fnd to ls with
  | none => rw [hf] at h; cases h
  | some r =>
    rw [hf] at h
    simp only at h
    by_cases hk : r.d.kind = 1
    · rw [if_pos hk] at h
      cases h
      exact ⟨r, rfl, hk, rfl⟩
    · rw [if_neg hk] at h; cases h
theorem homeP_plug {to : Int} {ls : List Lay} {C : List PFrm} {kids : List Lay} (h : homeP to ls = .ok (C, kids)) : plugP C kids = ls ∧ pidOf C = to := by
  by_cases h0 : to = 0
  · unfold homeP at h
    rw [if_pos h0] at h
    cases h
    exact ⟨rfl, h0.symm⟩
  · obtain ⟨r, h1, h2, h3⟩ := homeP_mem h h0
    cases h3
    exact fnd_plug h1
theorem fnd_mem {id : Int} {ls : List Lay} {r : At'} (h : fnd id ls = some r) : r.d ∈ dats ls := (fnd_dats h).mem_iff.2 (by simp)
/-- What isn't taken out is found again. -/
theorem homeP_rest {z : Int} {id to : Int} {ls : List Lay} {r : At'} {x : List PFrm × List Lay} (G : Good z ls) (h : fnd id ls = some r) (ht : homeP to ls = .ok x) (h1 : r.d.id ≠ to) (h2 : fnd to r.kids = none) :
    ∃ C' kids', homeP to (plugP r.C (r.pre ++ r.post)) = .ok (C', kids') := by
  by_cases h0 : to = 0
  · exact ⟨[], _, by unfold homeP; rw [if_pos h0]⟩
  · obtain ⟨r2, e1, e2, -⟩ := homeP_mem ht h0
    have p := dats_rest h
    have hm := p.mem_iff.1 (fnd_mem e1)
    have hid := (fnd_plug e1).2
    have hin : r2.d ∈ dats (plugP r.C (r.pre ++ r.post)) := by
      rcases List.mem_append.1 hm with hm | hm
      · exact hm
      · rcases List.mem_cons.1 hm with hm | hm
        · rw [hm] at hid; exact absurd hid h1
        · exact absurd hid (fnd_none.1 h2 _ hm)
    cases hf : fnd to (plugP r.C (r.pre ++ r.post)) with
    | none => exact absurd hid (fnd_none.1 hf _ hin)
    | some r3 =>
      have e3 : r3.d = r2.d := uniq_dat G.nodup (p.mem_iff.2 (List.mem_append.2 (.inl (fnd_mem hf)))) (fnd_mem e1) ((fnd_plug hf).2.trans hid.symm)
      exact ⟨⟨r3.pre, r3.d, r3.post⟩ :: r3.C, r3.kids, by unfold homeP; rw [if_neg h0, hf]; simp only; rw [if_pos (by rw [e3]; exact e2)]⟩
theorem dats_insAt (at_ : Int) (l : Lay) (ls : List Lay) : (dats (insAt at_ l ls)).Perm (dats [l] ++ dats ls) := by
  unfold insAt
  split
  · rw [dats_append]; exact List.perm_append_comm
  · have e : ls.take at_.toNat ++ l :: ls.drop at_.toNat = ls.take at_.toNat ++ ([l] ++ ls.drop at_.toNat) := rfl
    rw [e, dats_append, dats_append, ← List.append_assoc]
    refine (List.perm_append_comm.append_right _).trans ?_
    rw [List.append_assoc, ← dats_append, List.take_append_drop]
theorem dats_one (d : Dat) (kids : List Lay) : dats [.mk d kids] = d :: dats kids := by rw [dats, dats]; simp
theorem good_add {z : Int} {ls ls' : List Lay} {to at_ n w h : Int} (G : Good z ls) (e : addP z ls to at_ n w h = .ok ls') : Good (z + 1) ls' ∧ pcnt ls' = pcnt ls + 1 := by
  unfold addP at e
  split at e
  · cases e
  split at e
  · cases e
  split at e
  · cases e
  rename_i C kids hh
  split at e
  · cases e
  split at e
  · cases e
  rename_i hlim
  cases e
  have p : (dats (plugP C (insAt at_ (.mk (freshD z n w h) []) kids))).Perm (freshD z n w h :: dats ls) := by
    refine (dats_plug C _).trans (((dats_insAt at_ _ kids).append_right _).trans ?_)
    rw [dats_one, dats, List.cons_append, List.cons_append]
    refine List.Perm.cons _ ?_
    have := dats_plug C kids
    rw [(homeP_plug hh).1] at this
    simpa using this.symm
  have hc : pcnt (plugP C (insAt at_ (.mk (freshD z n w h) []) kids)) = pcnt ls + 1 := by
    unfold pcnt
    rw [p.length_eq, List.length_cons]
  refine ⟨⟨?_, fun d hd => ?_, ?_, ?_⟩, hc⟩
  · rw [(p.map _).nodup_iff, List.map_cons, List.nodup_cons]
    refine ⟨fun hm => ?_, G.nodup⟩
    obtain ⟨d, hd, e⟩ := List.mem_map.1 hm
    have := (G.range d hd).2
    rw [freshD_id] at e
    omega
  · rcases List.mem_cons.1 (p.mem_iff.1 hd) with rfl | hd
    · rw [freshD_id]; have := G.one; omega
    · have := G.range d hd; omega
  · rw [hc]; omega
  · have := G.one; omega
theorem good_remove {z : Int} {ls ls' : List Lay} {id : Int} (G : Good z ls) (e : removeP ls id = .ok ls') : Good z ls' := by
  unfold removeP at e
  split at e
  · cases e
  rename_i r hr
  cases e
  have p := dats_rest hr
  refine ⟨?_, fun d hd => G.range d (p.mem_iff.2 (List.mem_append.2 (.inl hd))), ?_, G.one⟩
  · have := (p.map (·.id)).nodup_iff.1 G.nodup
    rw [List.map_append] at this
    exact (List.nodup_append.1 this).1
  · have := G.cnt
    unfold pcnt at this ⊢
    rw [p.length_eq, List.length_append] at this
    omega
theorem good_move {z : Int} {ls ls' : List Lay} {id to at_ : Int} (G : Good z ls) (e : moveP ls id to at_ = .ok ls') : Good z ls' ∧ (dats ls').Perm (dats ls) := by
  unfold moveP at e
  split at e
  · cases e
  rename_i r hr
  split at e
  · cases e
  rename_i C kids hh
  generalize ((kids.length : Int) - (if pidOf r.C = pidOf C then 1 else 0)) = room at e
  split at e
  · cases e
  split at e
  · cases e
  split at e
  · cases e
  split at e
  · cases e
  rename_i C' kids' hh'
  cases e
  have p : (dats (plugP C' (insAt at_ (.mk r.d r.kids) kids'))).Perm (dats ls) := by
    refine (dats_plug C' _).trans (((dats_insAt at_ _ kids').append_right _).trans ?_)
    rw [List.append_assoc]
    have := dats_plug C' kids'
    rw [(homeP_plug hh').1] at this
    refine ((List.Perm.append_left _ this.symm).trans ?_)
    rw [dats_one]
    exact List.perm_append_comm.trans (dats_rest hr).symm
  refine ⟨⟨(p.map _).nodup_iff.2 G.nodup, fun d hd => G.range d (p.mem_iff.1 hd), ?_, G.one⟩, p⟩
  have := G.cnt
  unfold pcnt at this ⊢
  rw [p.length_eq]
  exact this
end Go.Proofs.YtfcpbpfemmdklaaGreat.Tr

/- Small functions: numbers up to, sides, areas, New, the map that does nothing, copies of documents, all deeds, Parent. -/
namespace Go.Proofs.YtfcpbpfemmdklaaGreat.Tr
open Go.RowKit Go.Lib
set_option linter.unusedSimpArgs false
set_option linter.unusedVariables false

theorem wrap64_id (n : Int) (h0 : -9223372036854775808 ≤ n) (h1 : n ≤ 9223372036854775807) : wrap64 n = n := by
  unfold wrap64
  omega
set_option maxRecDepth 100000 in
set_option maxHeartbeats 400000 in
theorem upto46 (n m : Int) (w : World) : Calls Tryz.prog 68 #[.int .i64 n, .int .i64 m] w fun e w' => e = .returned (.bool (decide (0 ≤ n) && decide (n ≤ m))) ∧ w' = w := by
  by_cases h : 0 ≤ n
  · have a1 : decide (n ≥ 0) = true := by simpa using h
    by_cases h2 : n ≤ m
    · have b1 : decide (n ≤ m) = true := by simpa using h2
      go_enter Tryz.func68, Tryz.ntmps68
      go_wp2
      go_ret
      exact ⟨by simp [h, h2], rfl⟩
    · have b1 : decide (n ≤ m) = false := by simpa using h2
      go_enter Tryz.func68, Tryz.ntmps68
      go_wp2
      go_ret
      exact ⟨by simp [h, h2], rfl⟩
  · have a1 : decide (n ≥ 0) = false := by simpa using h
    go_enter Tryz.func68, Tryz.ntmps68
    go_wp2
    go_ret
    exact ⟨by simp [h], rfl⟩
set_option maxRecDepth 100000 in
set_option maxHeartbeats 400000 in
theorem side29 (n : Int) (w : World) : Calls Tryz.prog 65 #[.int .i64 n] w fun e w' => e = .returned (.bool (sideP n)) ∧ w' = w := by
  unfold sideP
  by_cases h : 1 ≤ n
  · have a1 : decide (n ≥ 1) = true := by simpa using h
    by_cases h2 : n ≤ 32768
    · have b1 : decide (n ≤ 32768) = true := by simpa using h2
      go_enter Tryz.func65, Tryz.ntmps65
      go_wp2
      go_ret
      exact ⟨by simp [h, h2], rfl⟩
    · have b1 : decide (n ≤ 32768) = false := by simpa using h2
      go_enter Tryz.func65, Tryz.ntmps65
      go_wp2
      go_ret
      exact ⟨by simp [h, h2], rfl⟩
  · have a1 : decide (n ≥ 1) = false := by simpa using h
    go_enter Tryz.func65, Tryz.ntmps65
    go_wp2
    go_ret
    exact ⟨by simp [h], rfl⟩
theorem side_bounds {n : Int} (h : sideP n = true) : 1 ≤ n ∧ n ≤ 32768 := by unfold sideP at h; simpa using h
set_option maxRecDepth 100000 in
set_option maxHeartbeats 400000 in
theorem area16 (x y : Int) (w : World) : Calls Tryz.prog 41 #[.int .i64 x, .int .i64 y] w fun e w' => e = .returned (.bool (areaP x y)) ∧ w' = w := by
  unfold areaP
  cases h1 : sideP x with
  | false =>
    go_enter Tryz.func41, Tryz.ntmps41
    go_wp2_with (refine (side29 x w).mono ?_; rw [h1]; rintro e w2 ⟨rfl, rfl⟩)
    go_ret
    exact ⟨rfl, rfl⟩
  | true =>
    cases h2 : sideP y with
    | false =>
      go_enter Tryz.func41, Tryz.ntmps41
      go_wp2_with (first
        | (refine (side29 x w).mono ?_; rw [h1]; rintro e w2 ⟨rfl, hw⟩; subst hw)
        | (refine (side29 y w2).mono ?_; rw [h2]; rintro e w3 ⟨rfl, hw⟩; subst hw))
      go_ret
      exact ⟨rfl, rfl⟩
    | true =>
      have bx := side_bounds h1
      have bY := side_bounds h2
      have hm0 : 0 ≤ x * y := Int.mul_nonneg (by omega) (by omega)
      have hm1 : x * y ≤ 32768 * 32768 := Int.mul_le_mul bx.2 bY.2 (by omega) (by omega)
      have wm : IntKind.i64.wrap (x * y) = x * y := wrap_i64 _ (by omega) (by omega)
      have wm2 : wrap64 (x * y) = x * y := wrap64_id _ (by omega) (by omega)
      clear bx bY hm0 hm1
      by_cases h3 : x * y ≤ 4194304
      · have b1 : decide (x * y ≤ 4194304) = true := by simpa using h3
        go_enter Tryz.func41, Tryz.ntmps41
        go_wp2_with (first
          | (refine (side29 x w).mono ?_; rw [h1]; rintro e w2 ⟨rfl, hw⟩; subst hw)
          | (refine (side29 y w2).mono ?_; rw [h2]; rintro e w3 ⟨rfl, hw⟩; subst hw))
        go_ret
        exact ⟨by simp [h3, wm2], rfl⟩
      · have b1 : decide (x * y ≤ 4194304) = false := by simpa using h3
        go_enter Tryz.func41, Tryz.ntmps41
        go_wp2_with (first
          | (refine (side29 x w).mono ?_; rw [h1]; rintro e w2 ⟨rfl, hw⟩; subst hw)
          | (refine (side29 y w2).mono ?_; rw [h2]; rintro e w3 ⟨rfl, hw⟩; subst hw))
        go_ret
        exact ⟨by simp [h3, wm2], rfl⟩
end Go.Proofs.YtfcpbpfemmdklaaGreat.Tr

/- A layer deleted out of a row. (printed by genTJ.py) -/
namespace Go.Proofs.YtfcpbpfemmdklaaGreat.Tr
open Go.RowKit
set_option linter.unusedSimpArgs false
set_option linter.unusedVariables false

def zero19 : List Value := [.int .i64 0, .int .i64 0, .bool false, .int .i64 0, .int .i64 0, .int .i64 0, .int .i64 0, .slice none 0 0, .slice none 0 0, .int .i64 0, .int .i64 0, .int .i64 0, .int .i64 0, .int .i64 0, .int .i64 0, .bool false, .int .i64 0, .slice none 0 0, .slice none 0 0]
theorem zero19_one : ∀ u ∈ zero19, u.oneCell' = true := by decide
theorem run_clear_layer (w : World) (ty : TypeId) (b o c : Nat) (hc : ∀ j, j < 19 → (w.cell? ⟨b, o + j, none⟩).isSome = true) (hf : ∀ j, j < 19 → w.frozen? ⟨b, o + j, none⟩ = false) :
    (Builtin.clear_ #[24] ty #[.slice (some ⟨b, o, none⟩) 1 c]).run Tryz.prog w = .ok (.tuple #[]) (w.setCells b o zero19) := by
  have hzc : (Builtin.zeroCells (Value.cells (.agg #[.int .i64 0, .int .i64 0, .bool false, .int .i64 0, .int .i64 0, .int .i64 0, .int .i64 0, .slice none 0 0, .slice none 0 0, .int .i64 0, .int .i64 0, .int .i64 0, .int .i64 0, .int .i64 0, .int .i64 0, .bool false, .int .i64 0, .slice none 0 0, .slice none 0 0])) 1).toList = zero19 := by kernel_rfl
  have hst := run_storeCells_cells (P := Tryz.prog) b o zero19 0 w (by intro j hj; simpa using hc j hj) (by intro j hj; simpa using hf j hj) zero19_one
  simp only [Nat.add_zero] at hst
  simp [Builtin.clear_, run_underlying Tryz.underlying24, Tryz.zeroValue51, hzc, hst]
theorem flat_take_drop (ls : List Loc) (i : Nat) : flat ls = flat (ls.take i) ++ flat (ls.drop i) := by rw [← flat_append, List.take_append_drop]
set_option maxRecDepth 100000 in
set_option maxHeartbeats 1600000 in
theorem delete_layers (B g n c i : Nat) (ls : List Loc) (w : World) (O : OwnR B w 51 19 ⟨some ⟨g, 0, none⟩, n, c⟩ (flat ls)) (hi : i < n) :
    Calls Tryz.prog 104 #[.slice (some ⟨g, 0, none⟩) n c, .int .i64 (i : Int), .int .i64 ((i + 1 : Nat) : Int)] w fun e w' =>
      e = .returned (.slice (some ⟨g, 0, none⟩) (n - 1) c) ∧ OwnR B w' 51 19 ⟨some ⟨g, 0, none⟩, n - 1, c⟩ (flat (ls.eraseIdx i)) ∧ Keeps (fun q => q = g) w w' := by
  have hn : n = ls.length := by
    have h1 := O.read.1.1.len
    rw [flat_length] at h1
    have h2 : ls.length * 19 = n * 19 := h1
    omega
  have hn9 : n ≤ 536870912 := O.2.2
  obtain ⟨g', c', cur, e0, hB, hg, hc, hs, ht⟩ := O.some (by show 0 < n; omega)
  simp only [Hd.mk.injEq, Option.some.injEq, Addr.mk.injEq] at e0
  obtain ⟨⟨rfl, -⟩, -, rfl⟩ := e0
  have hnc : n ≤ c := hc
  have ht' : cur.toList.take (n * 19) = flat ls := ht
  have hcm : c ≤ maxLen := by
    rcases O.1.2 with ⟨e, -⟩ | ⟨g2, cap2, cur2, e, h1, h2, h3, h4, h5⟩
    · cases e
    · cases e; exact h4
  obtain ⟨i0, hi0, hz0, hz1, hz2⟩ := info_parts info48
  obtain ⟨news, hnews⟩ : ∃ news, news = flat (ls.drop (i + 1)) := ⟨_, rfl⟩
  have hlen : news.length = (n - (i + 1)) * 19 := by rw [hnews, flat_length, List.length_drop, hn]
  have celw : ∀ w1 : World, w1.heap[g]? = w.heap[g]? → ∀ j u, (flat ls)[j]? = some u → w1.cell? ⟨g, j, none⟩ = some u := by
    intro w1 e j u hj
    have hjl : j < n * 19 := by have := (List.getElem?_eq_some_iff.1 hj).1; rw [flat_length] at this; omega
    rw [cell_of_row _ _ _ _ _ _ (e.trans hg)]
    rw [← ht', List.getElem?_take_of_lt hjl] at hj
    rw [← Array.getElem?_toList]
    exact hj
  have there : ∀ w1 : World, w1.heap[g]? = w.heap[g]? → ∀ j, j < c * 19 → (w1.cell? ⟨g, j, none⟩).isSome = true ∧ w1.frozen? ⟨g, j, none⟩ = false := by
    intro w1 e j hj
    rw [cell_of_row _ _ _ _ _ _ (e.trans hg)]
    exact ⟨by rw [Array.getElem?_eq_getElem (by omega)]; rfl, by simp [World.frozen?, e, hg]⟩
  obtain ⟨A, hA, hsrc⟩ : ∃ A : Addr, (if c = i + 1 then some (⟨g, 0, none⟩ : Addr) else some ⟨g, (i + 1) * 19, none⟩) = some A ∧ Hid (∀ t u, news[t]? = some u → w.drew.cell? (A.add t) = some u) := by
    by_cases h : c = i + 1
    · refine ⟨⟨g, 0, none⟩, by simp [h], fun t u hu => ?_⟩
      have h0 : news.length = 0 := by rw [hlen]; omega
      rw [List.length_eq_zero_iff.1 h0] at hu
      simp at hu
    · refine ⟨⟨g, (i + 1) * 19, none⟩, by simp [h], fun t u hu => ?_⟩
      rw [Addr.add_lit]
      refine celw w.drew rfl _ u ?_
      rw [flat_take_drop ls (i + 1), List.getElem?_append_right (by rw [flat_length, List.length_take]; omega), flat_length, List.length_take, show (i + 1) * 19 + t - min (i + 1) ls.length * 19 = t by omega, ← hnews]
      exact hu
  have s1 := Lib.hid hlen
  have s2 := Lib.hid (show ∀ u ∈ news, u.oneCell' = true from by rw [hnews]; exact flat_one _)
  have s3 := Lib.hid (show ∀ t, t < news.length → (w.drew.cell? ⟨g, 0 + i * 19 + t, none⟩).isSome = true ∧ w.drew.frozen? ⟨g, 0 + i * 19 + t, none⟩ = false from fun t ht2 => there w.drew rfl _ (by rw [hlen] at ht2; omega))
  obtain ⟨W1, hW1⟩ : ∃ W1, W1 = w.drew.setCells g (0 + i * 19) news := ⟨_, rfl⟩
  obtain ⟨cur1, c1, c2, c3⟩ := setCells_block g 51 (0, 0) news (0 + i * 19) w.drew cur hg (by rw [hlen]; omega)
  rw [← hW1] at c1
  have there1 : ∀ j, j < c * 19 → (W1.cell? ⟨g, j, none⟩).isSome = true ∧ W1.frozen? ⟨g, j, none⟩ = false := by
    intro j hj
    rw [cell_of_row _ _ _ _ _ _ c1]
    exact ⟨by rw [Array.getElem?_eq_getElem (by omega)]; rfl, by simp [World.frozen?, c1]⟩
  have hcl : ∀ ty, (Builtin.clear_ #[24] ty #[.slice (some ⟨g, (i + (n - (i + 1))) * 19, none⟩) (n - (i + (n - (i + 1)))) (c - (i + (n - (i + 1))))]).run Tryz.prog W1 = .ok (.tuple #[]) (W1.setCells g ((i + (n - (i + 1))) * 19) zero19) := by
    intro ty
    rw [show n - (i + (n - (i + 1))) = 1 by omega]
    exact run_clear_layer W1 ty g _ _ (fun j hj => (there1 _ (by omega)).1) (fun j hj => (there1 _ (by omega)).2)
  obtain ⟨cur2, d1, d2, d3⟩ := setCells_block g 51 (0, 0) zero19 ((i + (n - (i + 1))) * 19) W1 cur1 c1 (by rw [c2, hs]; show _ + 19 ≤ _; omega)
  have X := Lib.hid (show OwnR B (W1.setCells g ((i + (n - (i + 1))) * 19) zero19) 51 19 ⟨some ⟨g, 0, none⟩, n - 1, c⟩ (flat (ls.eraseIdx i)) from by
    have hel : (flat (ls.eraseIdx i)).length = (n - 1) * 19 := by rw [flat_length, List.length_eraseIdx, if_pos (by omega), hn]
    refine ⟨⟨hel, .inr ⟨g, c, cur2, rfl, hB, d1, by show n - 1 ≤ c; omega, hcm, by rw [d2, c2]; exact hs, ?_⟩⟩, flat_one _, by show n - 1 ≤ _; omega⟩
    show cur2.toList.take ((n - 1) * 19) = flat (ls.eraseIdx i)
    refine List.ext_getElem? fun j => ?_
    by_cases hj : j < (n - 1) * 19
    · rw [List.getElem?_take_of_lt hj, Array.getElem?_toList, d3 j, if_neg (by show ¬ (_ ∧ j < _ + 19); omega), c3 j, List.eraseIdx_eq_take_drop_succ, flat_append]
      have hft : (flat (ls.take i)).length = i * 19 := by rw [flat_length, List.length_take]; omega
      by_cases hji : j < i * 19
      · rw [if_neg (by omega), List.getElem?_append_left (by omega)]
        have h1 : (cur.toList.take (n * 19))[j]? = (flat ls)[j]? := by rw [ht']
        rw [List.getElem?_take_of_lt (by omega), Array.getElem?_toList] at h1
        rw [h1, flat_take_drop ls i, List.getElem?_append_left (by omega)]
      · rw [if_pos (by rw [hlen]; omega), List.getElem?_append_right (by omega), hft, ← hnews, show j - (0 + i * 19) = j - i * 19 by omega]
    · rw [List.getElem?_eq_none (by rw [List.length_take]; omega), List.getElem?_eq_none (by omega)])
  have KX := Lib.hid (show Keeps (fun q => q = g) w (W1.setCells g ((i + (n - (i + 1))) * 19) zero19) from by
    have h1 : Keeps (fun q => q = g) w W1 := by
      rw [hW1]
      exact (show Keeps (fun q => q = g) w w.drew from (Keeps.refl _ w).drew).trans (keeps_setCells g news _ _) (fun i hi e => e)
    exact h1.trans (keeps_setCells g _ _ _) (fun i hi e => e))
  have hW := Lib.hid hW1
  have hic : i ≤ c := by omega
  have hjc : i + 1 ≤ c := by omega
  have hin : i ≤ n := by omega
  have hjn : i + 1 ≤ n := by omega
  have hne : ¬ c = i + (n - (i + 1)) := by omega
  have hz1' : (0 : Int) ≤ (i : Int) + 1 := by omega
  have hz2' : (i : Int) + 1 ≤ (n : Int) := by omega
  have hz3' : (i : Int) + 1 ≤ (c : Int) := by omega
  have mixed : Tryz.prog.follows .mixedOrders = true := by kernel_rfl
  clear O hB hg hc hs ht ht' hcm hlen hnews celw there there1 hW1 c1 c2 c3 d1 d2 d3 hn
  go_enter Tryz.func104, Tryz.ntmps104
  go_wp2_with fail
  go_region_law (refine step_append_room rfl (.tmp 22) (.tmp 25) 24 rfl 51 i0 19 Tryz.underlying24 hi0 hz1 g 0 i c (by simp [Act.eval, Act.put]) A (n - (i + 1)) (c - (i + 1)) news (by simp [Act.eval, Act.put]) s1.out hsrc.out s2.out (by omega) s3.out ?_; rw [← hW.out])
  have hb1 : ((i + (n - (i + 1)) : Nat) : Int) ≤ (n : Int) := by omega
  have hb2 : (0 : Int) ≤ ((i + (n - (i + 1)) : Nat) : Int) := by omega
  have hb3 : i + (n - (i + 1)) ≤ n := by omega
  go_wp2_with fail
  go_ret
  have e9 : i + (n - (i + 1)) = n - 1 := by omega
  exact ⟨by rw [← e9]; rfl, X.out, KX.out⟩
end Go.Proofs.YtfcpbpfemmdklaaGreat.Tr

/- A layer inserted into a row. (printed by genTK.py) -/
namespace Go.Proofs.YtfcpbpfemmdklaaGreat.Tr
open Go.RowKit
set_option linter.unusedSimpArgs false
set_option linter.unusedVariables false

theorem run_copy_layers (w : World) (ty : TypeId) (b o dLen dCap : Nat) (a : Addr) (sLen sCap : Nat) (cs : List Value) (hn : cs.length = Nat.min sLen dLen * 19)
    (hsrc : ∀ j v, cs[j]? = some v → w.cell? (a.add j) = some v) (hc : ∀ j, j < cs.length → (w.cell? ⟨b, o + j, none⟩).isSome = true) (hf : ∀ j, j < cs.length → w.frozen? ⟨b, o + j, none⟩ = false) (h1 : ∀ v ∈ cs, v.oneCell' = true) :
    (Builtin.copy_ #[24, 24] ty #[.slice (some ⟨b, o, none⟩) dLen dCap, .slice (some a) sLen sCap]).run Tryz.prog w = .ok (goInt (Nat.min sLen dLen)) (w.setCells b o cs) := by
  have hl := run_loadCells_list (P := Tryz.prog) w a cs hsrc
  have hst := run_storeCells_cells (P := Tryz.prog) b o cs 0 w (by simpa using hc) (by simpa using hf) h1
  obtain ⟨i0, hi0, hz0, hz1, hz2⟩ := info_parts info48
  simp [Builtin.copy_, run_underlying Tryz.underlying24, Builtin.lenOf, Builtin.firstCells, sizeOf, typeInfo, hi0, hz1, ← hn, hl, hst]
theorem wpList_copy_run (w : World) {ops : Array Oper} {rest : List Oper} {o : Oper} {a : Act} {Q : Exit → Act → World → Prop} (hgd : o.guard = none) (d s : Operand) (t t' : TypeId)
    (ho : o.op = .call { callee := .builtin .copy, args := #[d, s], argTypes := #[t, t'] }) (v u : Value) (hd : a.eval d = v) (hs : a.eval s = u) {v' : Value} {w' : World}
    (hr : (Builtin.copy_ #[t, t'] o.type #[v, u]).run Tryz.prog w = .ok v' w') (h : wpList Tryz.prog ops Q rest (a.put o.dst v') w') : wpList Tryz.prog ops Q (o :: rest) a w :=
  wpList_plain hgd fun K hK => by
    unfold Oper.wp execOp
    simp only [ho, resolve, invoke, builtin, Sem.run_bind, Sem.run_pure, Result.andThen_ok, List.map_toArray, List.map_cons, List.map_nil, hd, hs, hr]
    exact hK _ _ h
theorem step_copy_run {ops : Array Oper} {o : Oper} {a : Act} {w : World} {K : Act → World → Prop} {Q : Exit → Act → World → Prop} {E : Prop}
    (hg : o.guard = none) (d x : Operand) (dT sT : TypeId) (hop : o.op = Op.call { callee := Callee.builtin Builtin.copy, args := #[d, x], argTypes := #[dT, sT] })
    (v u : Value) (hd : a.eval d = v) (hx : a.eval x = u) {v' : Value} {w' : World} (hr : (Builtin.copy_ #[dT, sT] o.type #[v, u]).run Tryz.prog w = .ok v' w') (hK : K (a.put o.dst v') w') :
    if Region.wanted o (yielded ops a.tmps) = true then Oper.wp Tryz.prog o a w K Q else E := by
  have hw : Region.wanted o (yielded ops a.tmps) = true := by simp [Region.wanted, hg]
  rw [if_pos hw]
  unfold Oper.wp execOp
  simp only [hop, resolve, invoke, builtin, Sem.run_bind, Sem.run_pure, Result.andThen_ok, List.map_toArray, List.map_cons, List.map_nil, hd, hx, hr]
  exact hK
set_option maxRecDepth 100000 in
set_option maxHeartbeats 1600000 in
/-- The row's block is the old one or a new one. -/
def NewOr (w : World) (h h' : Hd) : Prop := ∀ b, (Value.slice h'.a h'.n h'.c).ownBlock = some b → (Value.slice h.a h.n h.c).ownBlock = some b ∨ w.heap.size ≤ b
theorem newOr_of {w : World} {h h' : Hd} (e : (Value.slice h'.a h'.n h'.c).ownBlock = (Value.slice h.a h.n h.c).ownBlock ∨ (Value.slice h'.a h'.n h'.c).ownBlock = some w.heap.size) : NewOr w h h' := by
  intro b hb
  rcases e with e | e
  · exact .inl (e ▸ hb)
  · rw [e] at hb
    exact .inr (Nat.le_of_eq (Option.some.inj hb))
/-- At the end: there may be room or none. -/
theorem insert_end (B : Nat) (h : Hd) (ls : List Loc) (x : Loc) (vb vc : Nat) (w : World) (O : OwnR B w 51 19 h (flat ls)) (hB : B ≤ w.heap.size) (hn : h.n < 536870912) (hv : w.heap[vb]? = some (.cells x.cells.toArray 51 (0, 0))) :
    Calls Tryz.prog 102 #[.slice h.a h.n h.c, .int .i64 (h.n : Int), .slice (some ⟨vb, 0, none⟩) 1 vc] w fun e w' =>
      ∃ h', e = .returned (.slice h'.a h'.n h'.c) ∧ h'.n = h.n + 1 ∧ OwnR B w' 51 19 h' (flat (ls ++ [x])) ∧ w.grownBy w' (Value.slice h.a h.n h.c).ownBlock ∧ NewOr w h h' := by
  have hcx : ∀ j u, x.cells[j]? = some u → w.cell? ⟨vb, j, none⟩ = some u := by
    intro j u hj
    rw [cell_of_row _ _ _ _ _ _ hv]
    simpa using hj
  have HX := Lib.hid hcx
  obtain ⟨i0, hi, hz0, hz1, hz2⟩ := info_parts info48
  have fin : ∀ (v' : Value) (w1 : World), w1.ownsRow B 51 19 v' (h.n + 1) (flat ls ++ x.cells) → ∃ h' : Hd, v' = .slice h'.a h'.n h'.c ∧ h'.n = h.n + 1 ∧ OwnR B w1 51 19 h' (flat (ls ++ [x])) := by
    intro v' w1 ho
    have e1 : flat ls ++ x.cells = flat (ls ++ [x]) := by rw [flat_append, flat_one1]
    rw [e1] at ho
    obtain ⟨hd, e2, e3, -, -⟩ := own_cells ho (flat_one _)
    subst e2
    exact ⟨hd, rfl, e3, by rw [← e3] at ho; exact ho, flat_one _, by omega⟩
  have FIN := Lib.hid fin
  clear hv hcx fin
  obtain ⟨a, n, c⟩ := h
  have OO : w.ownsRow B 51 19 (.slice a n c) n (flat ls) := O.1
  cases a with
  | none =>
    have hz : n = 0 ∧ c = 0 := O.read.1.1.abs rfl
    obtain ⟨rfl, rfl⟩ := hz
    go_enter Tryz.func102, Tryz.ntmps102
    go_wp2_with (at_builtin; refine wpList_append_own_at (P := Tryz.prog) _ rfl _ _ 24 rfl B 51 i0 _ 19 216 Tryz.underlying24 hi hz0 hz1 hz2 (by decide) (by decide) _ _ _ rfl OO ⟨vb, 0, none⟩ 1 vc x.cells rfl (by rw [Loc.cells_length]) (fun j u hj => by rw [add_spot, Nat.zero_add]; exact HX.out j u hj) x.cells_one (by unfold maxLen; omega) (by omega) hB ?_)
    intro v' w1 hown hgrow hnil hat
    obtain ⟨h', rfl, e2, e3⟩ := FIN.out v' w1 hown
    go_wp2_with fail
    go_ret
    exact ⟨h', rfl, e2, e3, hgrow, newOr_of (h := ⟨_, _, _⟩) hat⟩
  | some y =>
    obtain ⟨g, c', cur, e0, hB2, hg, hc, hs, ht⟩ : ∃ g c' cur, (⟨some y, n, c⟩ : Hd) = ⟨some ⟨g, 0, none⟩, n, c'⟩ ∧ B ≤ g ∧ w.heap[g]? = some (.cells cur 51 (0, 0)) ∧ n ≤ c' ∧ cur.size = c' * 19 ∧ True := by
      rcases O.1.2 with ⟨e, -⟩ | ⟨g, cap, cur, e, h1, h2, h3, h4, h5, h6⟩
      · cases e
      · cases e
        exact ⟨g, _, cur, rfl, h1, h2, h3, h5, trivial⟩
    simp only [Hd.mk.injEq, Option.some.injEq] at e0
    obtain ⟨rfl, -, rfl⟩ := e0
    have hnc : n ≤ c := hc
    have hn2 : n < 536870912 := hn
    have z1 : (0 : Int) ≤ (n : Int) := by omega
    have z2 : (n : Int) ≤ (c : Int) := by omega
    clear hB2 hg hc hs ht hn
    rcases Nat.lt_or_ge n c with hlt | hge
    · have hne : ¬ c = n := by omega
      go_enter Tryz.func102, Tryz.ntmps102
      go_wp2_with (at_builtin; refine wpList_append_own_at (P := Tryz.prog) _ rfl _ _ 24 rfl B 51 i0 _ 19 216 Tryz.underlying24 hi hz0 hz1 hz2 (by decide) (by decide) _ _ _ rfl OO ⟨vb, 0, none⟩ 1 vc x.cells rfl (by rw [Loc.cells_length]) (fun j u hj => by rw [add_spot, Nat.zero_add]; exact HX.out j u hj) x.cells_one (by unfold maxLen; omega) (by omega) hB ?_)
      intro v' w1 hown hgrow hnil hat
      obtain ⟨h', rfl, e2, e3⟩ := FIN.out v' w1 hown
      go_wp2_with fail
      go_ret
      exact ⟨h', rfl, e2, e3, hgrow, newOr_of (h := ⟨_, _, _⟩) hat⟩
    · obtain rfl : c = n := by omega
      clear hge
      go_enter Tryz.func102, Tryz.ntmps102
      go_wp2_with (at_builtin; refine wpList_append_own_at (P := Tryz.prog) _ rfl _ _ 24 rfl B 51 i0 _ 19 216 Tryz.underlying24 hi hz0 hz1 hz2 (by decide) (by decide) _ _ _ rfl OO ⟨vb, 0, none⟩ 1 vc x.cells rfl (by rw [Loc.cells_length]) (fun j u hj => by rw [add_spot, Nat.zero_add]; exact HX.out j u hj) x.cells_one (by unfold maxLen; omega) (by omega) hB ?_)
      intro v' w1 hown hgrow hnil hat
      obtain ⟨h', rfl, e2, e3⟩ := FIN.out v' w1 hown
      go_wp2_with fail
      go_ret
      exact ⟨h', rfl, e2, e3, hgrow, newOr_of (h := ⟨_, _, _⟩) hat⟩
theorem shape_of {w : World} {b : Nat} {c : Array Value} {t : TypeId} {f : Nat × Nat} (h : w.heap[b]? = some (.cells c t f)) : w.shape? b = some (t, c.size) := by simp [World.shape?, h]
/-- What a row holds behind the two copies. -/
theorem row_ins {n i c : Nat} {ls : List Loc} {x : Loc} {cur c1 c2 : Array Value} (hn : n = ls.length) (hi : i ≤ n) (hc : n + 1 ≤ c) (hs : cur.size = c * 19) (ht : cur.toList.take (n * 19) = flat ls) (s1 : c1.size = cur.size) (s2 : c2.size = c1.size)
    (h1 : ∀ j, c1[j]? = if (i + 1) * 19 ≤ j ∧ j < (i + 1) * 19 + (flat (ls.drop i)).length then (flat (ls.drop i))[j - (i + 1) * 19]? else cur[j]?)
    (h2 : ∀ j, c2[j]? = if i * 19 ≤ j ∧ j < i * 19 + x.cells.length then x.cells[j - i * 19]? else c1[j]?) : c2.toList.take ((n + 1) * 19) = flat (ls.take i ++ x :: ls.drop i) := by
  have e1 : flat (ls.take i ++ x :: ls.drop i) = flat (ls.take i) ++ (x.cells ++ flat (ls.drop i)) := by rw [flat_append, flat]
  have l1 : (flat (ls.take i)).length = i * 19 := by rw [flat_length, List.length_take]; omega
  have l2 : (flat (ls.drop i)).length = (n - i) * 19 := by rw [flat_length, List.length_drop, hn]
  have l3 := x.cells_length
  rw [e1]
  refine List.ext_getElem? fun j => ?_
  by_cases hj : j < (n + 1) * 19
  · rw [List.getElem?_take_of_lt hj, Array.getElem?_toList, h2 j]
    by_cases a1 : i * 19 ≤ j ∧ j < i * 19 + x.cells.length
    · rw [if_pos a1, List.getElem?_append_right (by omega), l1, List.getElem?_append_left (by omega)]
    · rw [if_neg a1, h1 j]
      by_cases a2 : (i + 1) * 19 ≤ j ∧ j < (i + 1) * 19 + (flat (ls.drop i)).length
      · rw [if_pos a2, List.getElem?_append_right (by omega), l1, List.getElem?_append_right (by omega), l3, show j - i * 19 - 19 = j - (i + 1) * 19 by omega]
      · rw [if_neg a2, List.getElem?_append_left (by omega)]
        have h3 : (cur.toList.take (n * 19))[j]? = (flat ls)[j]? := by rw [ht]
        rw [List.getElem?_take_of_lt (by omega), Array.getElem?_toList] at h3
        rw [h3, flat_take_drop ls i, List.getElem?_append_left (by omega)]
  · rw [List.getElem?_eq_none (by rw [List.length_take]; omega), List.getElem?_eq_none (by rw [List.length_append, List.length_append]; omega)]
set_option maxRecDepth 100000 in
set_option maxHeartbeats 1600000 in
/-- Ahead of the end, where there is room. -/
theorem insert_shift (B g n c i : Nat) (ls : List Loc) (x : Loc) (vb vc : Nat) (w : World) (O : OwnR B w 51 19 ⟨some ⟨g, 0, none⟩, n, c⟩ (flat ls)) (hi : i < n) (hroom : n + 1 ≤ c) (hn9 : n < 536870912) (hv : w.heap[vb]? = some (.cells x.cells.toArray 51 (0, 0))) (hvb : vb ≠ g) :
    Calls Tryz.prog 102 #[.slice (some ⟨g, 0, none⟩) n c, .int .i64 (i : Int), .slice (some ⟨vb, 0, none⟩) 1 vc] w fun e w' =>
      e = .returned (.slice (some ⟨g, 0, none⟩) (n + 1) c) ∧ OwnR B w' 51 19 ⟨some ⟨g, 0, none⟩, n + 1, c⟩ (flat (ls.take i ++ x :: ls.drop i)) ∧ Keeps (fun q => q = g) w w' := by
  have hn : n = ls.length := by
    have h1 := O.read.1.1.len
    rw [flat_length] at h1
    have h2 : ls.length * 19 = n * 19 := h1
    omega
  obtain ⟨g', c', cur, e0, hB, hg, hc, hs, ht⟩ := O.some (by show 0 < n; omega)
  simp only [Hd.mk.injEq, Option.some.injEq, Addr.mk.injEq] at e0
  obtain ⟨⟨rfl, -⟩, -, rfl⟩ := e0
  have ht' : cur.toList.take (n * 19) = flat ls := ht
  have hcm : c ≤ maxLen := by
    rcases O.1.2 with ⟨e, -⟩ | ⟨g2, cap2, cur2, e, h1, h2, h3, h4, h5⟩
    · cases e
    · cases e; exact h4
  have hc63 : c ≤ 9223372036854775807 := by unfold maxLen at hcm; omega
  have l2 : (flat (ls.drop i)).length = (n - i) * 19 := by rw [flat_length, List.length_drop, hn]
  have celw : ∀ w1 : World, w1.heap[g]? = w.heap[g]? → ∀ j u, (flat ls)[j]? = some u → w1.cell? ⟨g, j, none⟩ = some u := by
    intro w1 e j u hj
    have hjl : j < n * 19 := by have := (List.getElem?_eq_some_iff.1 hj).1; rw [flat_length] at this; omega
    rw [cell_of_row _ _ _ _ _ _ (e.trans hg)]
    rw [← ht', List.getElem?_take_of_lt hjl] at hj
    rw [← Array.getElem?_toList]
    exact hj
  have there : ∀ (w1 : World) (cu : Array Value), w1.heap[g]? = some (.cells cu 51 (0, 0)) → cu.size = c * 19 → ∀ j, j < c * 19 → (w1.cell? ⟨g, j, none⟩).isSome = true ∧ w1.frozen? ⟨g, j, none⟩ = false := by
    intro w1 cu e es j hj
    rw [cell_of_row _ _ _ _ _ _ e]
    exact ⟨by rw [Array.getElem?_eq_getElem (by omega)]; rfl, by simp [World.frozen?, e]⟩
  have hov : ∀ lb cb, (callFunc 129 #[.slice (some ⟨vb, 0, none⟩) 1 vc, .slice (some ⟨g, (i + 1) * 19, none⟩) lb cb]).run Tryz.prog w = .ok (.value (.bool false)) w := fun lb cb => by
    rw [run_callFunc_extern Tryz.func129 (by kernel_rfl) (by kernel_rfl) (by kernel_rfl) (e := Extern.SlicesOverlaps.overlaps #[24, 24] #[4]) (by kernel_rfl),
      Lib.run_overlaps_apart w 24 4 51 Tryz.underlying24 19 Tryz.sizeOf51 ⟨vb, 0, none⟩ ⟨g, (i + 1) * 19, none⟩ 1 vc lb cb hvb 51 51 x.cells.toArray.size cur.size (shape_of hv) (shape_of hg) (by rw [hs]; omega) (by simp [World.frozen?, hv]) (by simp [World.frozen?, hv])]
    rfl
  have hcp1 : ∀ ty dc sc, (Builtin.copy_ #[24, 24] ty #[.slice (some ⟨g, (i + 1) * 19, none⟩) (n - i) dc, .slice (some ⟨g, i * 19, none⟩) (n + 1 - i) sc]).run Tryz.prog w.drew = .ok (goInt (Nat.min (n + 1 - i) (n - i))) (w.drew.setCells g ((i + 1) * 19) (flat (ls.drop i))) := fun ty dc sc =>
    run_copy_layers w.drew ty g ((i + 1) * 19) (n - i) dc ⟨g, i * 19, none⟩ (n + 1 - i) sc (flat (ls.drop i)) (by rw [l2]; simp only [Nat.min_def]; split <;> omega)
      (fun j v hj => by
        rw [add_spot]
        refine celw w.drew rfl _ v ?_
        rw [flat_take_drop ls i, List.getElem?_append_right (by rw [flat_length, List.length_take]; omega), flat_length, List.length_take, show i * 19 + j - min i ls.length * 19 = j by omega]
        exact hj)
      (fun j hj => (there w.drew cur hg hs _ (by rw [l2] at hj; omega)).1) (fun j hj => (there w.drew cur hg hs _ (by rw [l2] at hj; omega)).2) (flat_one _)
  obtain ⟨W1, hW1⟩ : ∃ W1, W1 = w.drew.setCells g ((i + 1) * 19) (flat (ls.drop i)) := ⟨_, rfl⟩
  obtain ⟨cur1, c1, c2, c3⟩ := setCells_block g 51 (0, 0) (flat (ls.drop i)) ((i + 1) * 19) w.drew cur hg (by rw [l2, hs]; omega)
  rw [← hW1] at c1
  have hvW : ∀ W : World, W.heap[vb]? = W1.heap[vb]? → W.heap[vb]? = some (.cells x.cells.toArray 51 (0, 0)) := fun W e => by
    rw [e, hW1]
    have k := keeps_setCells g (flat (ls.drop i)) ((i + 1) * 19) w.drew
    exact (k.block vb (lt_of_block (show w.drew.heap[vb]? = _ from hv)) hvb).trans hv
  have hcp2 : ∀ (W : World), W.heap[g]? = W1.heap[g]? → W.heap[vb]? = W1.heap[vb]? → ∀ ty dc, (Builtin.copy_ #[24, 24] ty #[.slice (some ⟨g, i * 19, none⟩) (n + 1 - i) dc, .slice (some ⟨vb, 0, none⟩) 1 vc]).run Tryz.prog W = .ok (goInt (Nat.min 1 (n + 1 - i))) (W.setCells g (i * 19) x.cells) := fun W e1 e2 ty dc =>
    run_copy_layers W ty g (i * 19) (n + 1 - i) dc ⟨vb, 0, none⟩ 1 vc x.cells (by rw [Loc.cells_length]; simp only [Nat.min_def]; split <;> omega)
      (fun j v hj => by
        rw [add_spot, Nat.zero_add, cell_of_row _ _ _ _ _ _ (hvW W e2)]
        simpa using hj)
      (fun j hj => (there W cur1 (e1.trans c1) (c2.trans hs) _ (by rw [Loc.cells_length] at hj; omega)).1) (fun j hj => (there W cur1 (e1.trans c1) (c2.trans hs) _ (by rw [Loc.cells_length] at hj; omega)).2) x.cells_one
  obtain ⟨cur2, d1, d2, d3⟩ := setCells_block g 51 (0, 0) x.cells (i * 19) W1 cur1 c1 (by rw [c2, hs, Loc.cells_length]; omega)
  have X := Lib.hid (show OwnR B (W1.setCells g (i * 19) x.cells) 51 19 ⟨some ⟨g, 0, none⟩, n + 1, c⟩ (flat (ls.take i ++ x :: ls.drop i)) from
    ⟨⟨by rw [flat_length, List.length_append, List.length_cons, List.length_take, List.length_drop]; show _ = (n + 1) * 19; omega, .inr ⟨g, c, cur2, rfl, hB, d1, hroom, hcm, by rw [d2, c2]; exact hs, row_ins hn (by omega) hroom hs ht' c2 d2 c3 d3⟩⟩, flat_one _, by show n + 1 ≤ _; omega⟩)
  have KX := Lib.hid (show Keeps (fun q => q = g) w (W1.setCells g (i * 19) x.cells) from by
    have h1 : Keeps (fun q => q = g) w W1 := by
      rw [hW1]
      exact (show Keeps (fun q => q = g) w w.drew from (Keeps.refl _ w).drew).trans (keeps_setCells g _ _ _) (fun i hi e => e)
    exact h1.trans (keeps_setCells g _ _ _) (fun i hi e => e))
  rw [← hW1] at hcp1
  have mixed : Tryz.prog.follows .mixedOrders = true := by kernel_rfl
  have hwi : IntKind.i64.wrap ((i : Int) + 1) = (i : Int) + 1 := wrap_i64 _ (by omega) (by omega)
  have hz2 : ¬ ((i : Int) = (n : Int)) := by omega
  have hb1 : (0 : Int) ≤ (i : Int) + 1 := by omega
  have hin : i ≤ n := by omega
  have htn : ((i : Int) + 1).toNat = i + 1 := by omega
  have hb2 : ¬ (c = i + 1) := by omega
  have hb3 : (i : Int) ≤ (n : Int) + 1 := by omega
  have hb4 : ¬ (c = i) := by omega
  have HC1 := Lib.hid hcp1
  have HC2 := Lib.hid hcp2
  clear hcp1 hcp2 celw there hvW O hB hg hc hs ht ht' hcm l2 hW1 c1 c2 c3 d1 d2 d3 hv hvb hn
  go_enter Tryz.func102, Tryz.ntmps102
  go_wp2_with (simp only [hov])
  · go_region_law (refine step_copy_run rfl (.tmp 73) (.tmp 76) 24 24 rfl (.slice (some ⟨g, (i + 1) * 19, none⟩) (n - i) (c - (i + 1))) (.slice (some ⟨g, i * 19, none⟩) (n + 1 - i) (c - i)) (by simp [Act.eval, Act.put]) (by simp [Act.eval, Act.put]) (HC1.out _ _ _) ?_)
    go_wp2_with (refine wpList_copy_run W1 rfl (.tmp 80) (.tmp 81) 24 24 rfl (.slice (some ⟨g, i * 19, none⟩) (n + 1 - i) (c - i)) (.slice (some ⟨vb, 0, none⟩) 1 vc) rfl rfl (HC2.out W1 rfl rfl _ _) ?_)
    go_ret
    exact ⟨rfl, X.out, KX.out⟩
end Go.Proofs.YtfcpbpfemmdklaaGreat.Tr

/- A layer inserted into a row without room. (printed by genTL.py) -/
namespace Go.Proofs.YtfcpbpfemmdklaaGreat.Tr
open Go.RowKit Go.Lib
set_option linter.unusedSimpArgs false
set_option linter.unusedVariables false

/-- What the new row holds behind the two copies. -/
theorem row_ins2 {n i c : Nat} {ls : List Loc} {x : Loc} {cur c1 c2 : Array Value} (hn : n = ls.length) (hi : i ≤ n) (hc : n + 1 ≤ c) (hs : cur.size = c * 19) (ht : cur.toList.take (i * 19) = flat (ls.take i)) (s1 : c1.size = cur.size) (s2 : c2.size = c1.size)
    (h1 : ∀ j, c1[j]? = if i * 19 ≤ j ∧ j < i * 19 + x.cells.length then x.cells[j - i * 19]? else cur[j]?)
    (h2 : ∀ j, c2[j]? = if (i + 1) * 19 ≤ j ∧ j < (i + 1) * 19 + (flat (ls.drop i)).length then (flat (ls.drop i))[j - (i + 1) * 19]? else c1[j]?) : c2.toList.take ((n + 1) * 19) = flat (ls.take i ++ x :: ls.drop i) := by
  have e1 : flat (ls.take i ++ x :: ls.drop i) = flat (ls.take i) ++ (x.cells ++ flat (ls.drop i)) := by rw [flat_append, flat]
  have l1 : (flat (ls.take i)).length = i * 19 := by rw [flat_length, List.length_take]; omega
  have l2 : (flat (ls.drop i)).length = (n - i) * 19 := by rw [flat_length, List.length_drop, hn]
  have l3 := x.cells_length
  rw [e1]
  refine List.ext_getElem? fun j => ?_
  by_cases hj : j < (n + 1) * 19
  · rw [List.getElem?_take_of_lt hj, Array.getElem?_toList, h2 j]
    by_cases a2 : (i + 1) * 19 ≤ j ∧ j < (i + 1) * 19 + (flat (ls.drop i)).length
    · rw [if_pos a2, List.getElem?_append_right (by omega), l1, List.getElem?_append_right (by omega), l3, show j - i * 19 - 19 = j - (i + 1) * 19 by omega]
    · rw [if_neg a2, h1 j]
      by_cases a1 : i * 19 ≤ j ∧ j < i * 19 + x.cells.length
      · rw [if_pos a1, List.getElem?_append_right (by omega), l1, List.getElem?_append_left (by omega)]
      · rw [if_neg a1, List.getElem?_append_left (by omega)]
        have h3 : (cur.toList.take (i * 19))[j]? = (flat (ls.take i))[j]? := by rw [ht]
        rw [List.getElem?_take_of_lt (by omega), Array.getElem?_toList] at h3
        exact h3
  · rw [List.getElem?_eq_none (by rw [List.length_take]; omega), List.getElem?_eq_none (by rw [List.length_append, List.length_append]; omega)]
set_option maxRecDepth 100000 in
set_option maxHeartbeats 1600000 in
/-- Ahead of the end, where there is no room. -/
theorem insert_grow (B g n c i : Nat) (ls : List Loc) (x : Loc) (vb vc : Nat) (w : World) (O : OwnR B w 51 19 ⟨some ⟨g, 0, none⟩, n, c⟩ (flat ls)) (hi : i < n) (hroom : c < n + 1) (hn9 : n < 536870912) (hv : w.heap[vb]? = some (.cells x.cells.toArray 51 (0, 0))) (hB : B ≤ w.heap.size) :
    Calls Tryz.prog 102 #[.slice (some ⟨g, 0, none⟩) n c, .int .i64 (i : Int), .slice (some ⟨vb, 0, none⟩) 1 vc] w fun e w' =>
      ∃ h' : Hd, e = .returned (.slice h'.a h'.n h'.c) ∧ h'.n = n + 1 ∧ OwnR B w' 51 19 h' (flat (ls.take i ++ x :: ls.drop i)) ∧ Keeps none' w w' ∧ NewOr w ⟨some ⟨g, 0, none⟩, n, c⟩ h' := by
  have hn : n = ls.length := by
    have h1 := O.read.1.1.len
    rw [flat_length] at h1
    have h2 : ls.length * 19 = n * 19 := h1
    omega
  obtain ⟨g', c', cur0, e0, hB0, hg, hc, hs0, ht⟩ := O.some (by show 0 < n; omega)
  simp only [Hd.mk.injEq, Option.some.injEq, Addr.mk.injEq] at e0
  obtain ⟨⟨rfl, -⟩, -, rfl⟩ := e0
  have ht' : cur0.toList.take (n * 19) = flat ls := ht
  have hcn : n = c := by have h1 : n ≤ c := hc; omega
  obtain ⟨i0, hi0, hz0, hz1, hz2⟩ := info_parts info48
  have l1 : (flat (ls.take i)).length = i * 19 := by rw [flat_length, List.length_take]; omega
  have l2 : (flat (ls.drop i)).length = (n - i) * 19 := by rw [flat_length, List.length_drop, hn]
  have hgw : g < w.heap.size := lt_of_block hg
  have hvw : vb < w.heap.size := lt_of_block hv
  have celw : ∀ w1 : World, w1.heap[g]? = w.heap[g]? → ∀ j u, (flat ls)[j]? = some u → w1.cell? ⟨g, j, none⟩ = some u := by
    intro w1 e j u hj
    have hjl : j < n * 19 := by have := (List.getElem?_eq_some_iff.1 hj).1; rw [flat_length] at this; omega
    rw [cell_of_row _ _ _ _ _ _ (e.trans hg)]
    rw [← ht', List.getElem?_take_of_lt hjl] at hj
    rw [← Array.getElem?_toList]
    exact hj
  have hold : (Builtin.firstCells i0.size i (.slice (some ⟨g, 0, none⟩) i c)).run Tryz.prog w.drew = .ok (flat (ls.take i)).toArray w.drew := by
    rw [hz1]
    exact run_firstCells_some w.drew 19 i ⟨g, 0, none⟩ i c (flat (ls.take i)) l1 (fun j v hj => by
      rw [add_spot, Nat.zero_add]
      refine celw w.drew rfl j v ?_
      have hjl := (List.getElem?_eq_some_iff.1 hj).1
      rw [flat_take_drop ls i, List.getElem?_append_left hjl]
      exact hj)
  have hkk : (n : Int) + 1 - (i : Int) = ((n + 1 - i : Nat) : Int) := by omega
  have hik : i + (n + 1 - i) = n + 1 := by omega
  obtain ⟨Z, hZ⟩ : ∃ Z, i0.zero = some Z ∧ Z.cells.size = 19 := ⟨_, hz0, by kernel_rfl⟩
  have hrz : ∀ ty, (Builtin.append_ #[24, 3] ty #[.slice (some ⟨g, 0, none⟩) i c, .int .i64 ((n : Int) + 1 - (i : Int))]).run Tryz.prog w =
      .ok (.slice (some ⟨w.heap.size, 0, none⟩) (n + 1) (grownCap w (n + 1) c 51)) (w.drew.alloc (.cells ((flat (ls.take i)).toArray ++ Builtin.zeroCells Z.cells (n + 1 - i) ++ Builtin.zeroCells Z.cells (grownCap w (n + 1) c 51 - (n + 1))) 51)) := fun ty => by
    have h := Lib.run_append_grow_zeros w 24 3 ty 51 i0 Z .i64 .i64 Tryz.underlying24 Tryz.underlying3 hi0 hZ.1 (some ⟨g, 0, none⟩) i c (flat (ls.take i)) hold (n + 1 - i) (by omega) (by omega) (by omega) (by omega) (by rw [hz2]; omega) (by rw [hz2, hik]; exact growslice_fits hroom (by omega))
    rw [hik] at h
    rw [hkk]
    exact h
  obtain ⟨G, hG⟩ : ∃ G, G = grownCap w (n + 1) c 51 := ⟨_, rfl⟩
  obtain ⟨ROW, hROW⟩ : ∃ ROW : Array Value, ROW = (flat (ls.take i)).toArray ++ Builtin.zeroCells Z.cells (n + 1 - i) ++ Builtin.zeroCells Z.cells (G - (n + 1)) := ⟨_, rfl⟩
  rw [← hG] at hrz
  rw [← hROW] at hrz
  have hGn : n + 1 ≤ G := by rw [hG]; exact grownCap_ge w _ _ _
  have hGm : G ≤ maxLen := by rw [hG]; exact grownCap_le_maxLen w (n + 1) c 51 (by unfold maxLen; omega)
  have hG63 : G ≤ 9223372036854775807 := by unfold maxLen at hGm; omega
  have hRs : ROW.size = G * 19 := by
    rw [hROW, Array.size_append, Array.size_append, size_zeroCells, size_zeroCells, hZ.2, List.size_toArray, l1]
    omega
  have hRt : ROW.toList.take (i * 19) = flat (ls.take i) := by
    rw [hROW, Array.toList_append, Array.toList_append, List.append_assoc, ← l1]
    exact List.take_left' rfl
  obtain ⟨A0, hA0⟩ : ∃ A0, A0 = (w.alloc (.cells ROW 51)).drew := ⟨_, rfl⟩
  have hrz' : ∀ ty, (Builtin.append_ #[24, 3] ty #[.slice (some ⟨g, 0, none⟩) i c, .int .i64 ((n : Int) + 1 - (i : Int))]).run Tryz.prog w = .ok (.slice (some ⟨w.heap.size, 0, none⟩) (n + 1) G) A0 := fun ty => by rw [hA0]; exact hrz ty
  clear hrz
  have k0 : Keeps none' w A0 := by rw [hA0]; exact ((Keeps.refl none' w).alloc _).drew
  have b0 : A0.heap[w.heap.size]? = some (.cells ROW 51 (0, 0)) := by rw [hA0]; exact Array.getElem?_push_size
  have hx0 : (x.cells).length = 19 := x.cells_length
  obtain ⟨cur1, c1, c2, c3⟩ := setCells_block w.heap.size 51 (0, 0) x.cells (i * 19) A0 ROW b0 (by rw [hRs]; omega)
  have hcp1 : ∀ ty, (Builtin.copy_ #[24, 24] ty #[.slice (some ⟨w.heap.size, i * 19, none⟩) (n + 1 - i) (G - i), .slice (some ⟨vb, 0, none⟩) 1 vc]).run Tryz.prog A0 = .ok (goInt (Nat.min 1 (n + 1 - i))) (A0.setCells w.heap.size (i * 19) x.cells) := fun ty =>
    run_copy_layers A0 ty w.heap.size (i * 19) (n + 1 - i) (G - i) ⟨vb, 0, none⟩ 1 vc x.cells (by rw [hx0]; simp only [Nat.min_def]; split <;> omega)
      (fun j v hj => by
        rw [add_spot, Nat.zero_add, cell_of_row _ _ _ _ _ _ ((k0.later vb hvw).trans hv)]
        simpa using hj)
      (fun j hj => by rw [cell_of_row _ _ _ _ _ _ b0, Array.getElem?_eq_getElem (by omega)]; rfl) (fun j hj => by simp [World.frozen?, b0]) x.cells_one
  obtain ⟨A1, hA1⟩ : ∃ A1, A1 = A0.setCells w.heap.size (i * 19) x.cells := ⟨_, rfl⟩
  rw [← hA1] at c1 hcp1
  have k1 : Keeps none' w A1 := by
    rw [hA1]
    exact k0.trans (keeps_setCells w.heap.size _ _ _) (fun q hq e => by have e' : q = w.heap.size := e; omega)
  obtain ⟨cur2, d1, d2, d3⟩ := setCells_block w.heap.size 51 (0, 0) (flat (ls.drop i)) ((i + 1) * 19) A1.drew cur1 c1 (by rw [c2, hRs, l2]; omega)
  have hcp2 : ∀ ty, (Builtin.copy_ #[24, 24] ty #[.slice (some ⟨w.heap.size, (i + 1) * 19, none⟩) (n - i) (G - (i + 1)), .slice (some ⟨g, i * 19, none⟩) (n - i) (c - i)]).run Tryz.prog A1.drew = .ok (goInt (Nat.min (n - i) (n - i))) (A1.drew.setCells w.heap.size ((i + 1) * 19) (flat (ls.drop i))) := fun ty =>
    run_copy_layers A1.drew ty w.heap.size ((i + 1) * 19) (n - i) (G - (i + 1)) ⟨g, i * 19, none⟩ (n - i) (c - i) (flat (ls.drop i)) (by rw [l2, show (n - i).min (n - i) = n - i from Nat.min_self _])
      (fun j v hj => by
        rw [add_spot]
        refine celw A1.drew (k1.drew.later g hgw) _ v ?_
        rw [flat_take_drop ls i, List.getElem?_append_right (by rw [l1]; omega), l1, show i * 19 + j - i * 19 = j by omega]
        exact hj)
      (fun j hj => by rw [l2] at hj; rw [cell_of_row _ _ _ _ _ _ (show A1.drew.heap[w.heap.size]? = _ from c1), Array.getElem?_eq_getElem (by omega)]; rfl) (fun j hj => by simp [World.frozen?, show A1.drew.heap[w.heap.size]? = _ from c1]) (flat_one _)
  obtain ⟨A2, hA2⟩ : ∃ A2, A2 = A1.drew.setCells w.heap.size ((i + 1) * 19) (flat (ls.drop i)) := ⟨_, rfl⟩
  rw [← hA2] at d1 hcp2
  have KX : Keeps none' w A2 := by
    rw [hA2]
    exact k1.drew.trans (keeps_setCells w.heap.size _ _ _) (fun q hq e => by have e' : q = w.heap.size := e; omega)
  have X : OwnR B A2 51 19 ⟨some ⟨w.heap.size, 0, none⟩, n + 1, G⟩ (flat (ls.take i ++ x :: ls.drop i)) :=
    ⟨⟨by rw [flat_length, List.length_append, List.length_cons, List.length_take, List.length_drop]; show _ = (n + 1) * 19; omega, .inr ⟨w.heap.size, G, cur2, rfl, hB, d1, hGn, hGm, by rw [d2, c2]; exact hRs, row_ins2 hn (by omega) hGn hRs hRt c2 d2 c3 d3⟩⟩, flat_one _, by show n + 1 ≤ _; omega⟩
  have HX := Lib.hid X
  have HK := Lib.hid KX
  have H0 := Lib.hid hrz'
  have H1 := Lib.hid hcp1
  have H2 := Lib.hid hcp2
  have mixed : Tryz.prog.follows .mixedOrders = true := by kernel_rfl
  have hwi : IntKind.i64.wrap ((i : Int) + 1) = (i : Int) + 1 := wrap_i64 _ (by omega) (by omega)
  have hz2 : ¬ ((i : Int) = (n : Int)) := by omega
  have hz3 : (c : Int) < (n : Int) + 1 := by omega
  have hb1 : (0 : Int) ≤ (i : Int) + 1 := by omega
  have hin : i ≤ n := by omega
  have htn : ((i : Int) + 1).toNat = i + 1 := by omega
  have hGi : ¬ (G = i) := by omega
  have hGim : ¬ (G = i + 1) := by omega
  have hci : ¬ (c = i) := by omega
  have hb3 : (i : Int) ≤ (n : Int) := by omega
  have hb4 : (i : Int) ≤ (c : Int) := by omega
  clear X KX hrz' hcp1 hcp2 celw hold hkk hik hG hROW hRs hRt hA0 hA1 hA2 k0 k1 b0 c1 c2 c3 d1 d2 d3 hv O hB0 hg hs0 ht ht' hZ hz0 hz1 hi0 l1 l2 hn hcn
  go_enter Tryz.func102, Tryz.ntmps102
  go_wp2_with (first
    | refine Lib.wpList_append_run _ rfl (.tmp 34) (.tmp 39) 24 3 rfl (.slice (some ⟨g, 0, none⟩) i c) (.int .i64 ((n : Int) + 1 - (i : Int))) rfl rfl _ _ (H0.out _) ?_
    | refine wpList_copy_run _ rfl _ _ 24 24 rfl (.slice (some ⟨w.heap.size, i * 19, none⟩) (n + 1 - i) (G - i)) (.slice (some ⟨vb, 0, none⟩) 1 vc) rfl rfl (H1.out _) ?_)
  go_region_law (refine step_copy_run rfl (.tmp 50) (.tmp 53) 24 24 rfl (.slice (some ⟨w.heap.size, (i + 1) * 19, none⟩) (n - i) (G - (i + 1))) (.slice (some ⟨g, i * 19, none⟩) (n - i) (c - i)) (by simp [Act.eval, Act.put]) (by simp [Act.eval, Act.put]) (H2.out _) ?_)
  go_wp2_with fail
  go_ret
  exact ⟨⟨some ⟨w.heap.size, 0, none⟩, n + 1, G⟩, rfl, rfl, HX.out, HK.out, newOr_of (.inr rfl)⟩
set_option maxRecDepth 100000 in
/-- Wherever it goes. -/
theorem insert_any (B : Nat) (h : Hd) (i : Nat) (ls : List Loc) (x : Loc) (vb vc : Nat) (w : World) (O : OwnR B w 51 19 h (flat ls)) (hB : B ≤ w.heap.size) (hn : h.n < 536870912) (hi : i ≤ h.n) (hv : w.heap[vb]? = some (.cells x.cells.toArray 51 (0, 0))) (hvb : (Value.slice h.a h.n h.c).ownBlock ≠ some vb) :
    Calls Tryz.prog 102 #[.slice h.a h.n h.c, .int .i64 (i : Int), .slice (some ⟨vb, 0, none⟩) 1 vc] w fun e w' =>
      ∃ h' : Hd, e = .returned (.slice h'.a h'.n h'.c) ∧ h'.n = h.n + 1 ∧ OwnR B w' 51 19 h' (flat (ls.take i ++ x :: ls.drop i)) ∧ Keeps (fun q => (Value.slice h.a h.n h.c).ownBlock = some q) w w' ∧ NewOr w h h' := by
  have hl : h.n = ls.length := by
    have h1 := O.read.1.1.len
    rw [flat_length] at h1
    omega
  by_cases he : i = h.n
  · subst he
    refine (insert_end B h ls x vb vc w O hB hn hv).mono ?_
    rintro e w' ⟨h', e1, e2, e3, g, no⟩
    refine ⟨h', e1, e2, ?_, (Keeps.refl _ w).grown g (fun q hq e => e), no⟩
    rw [hl, List.take_length, List.drop_length]
    exact e3
  · have hi' : i < h.n := by omega
    obtain ⟨g, c, cur, e0, hB0, hg, hc, hs, ht⟩ := O.some (by omega)
    obtain ⟨a, n, c1⟩ := h
    simp only [Hd.mk.injEq] at e0
    obtain ⟨rfl, -, rfl⟩ := e0
    by_cases hroom : n + 1 ≤ c1
    · refine (insert_shift B g n c1 i ls x vb vc w O hi' hroom hn hv (fun e => hvb (by subst e; rfl))).mono ?_
      rintro e w' ⟨e1, e2, k⟩
      exact ⟨⟨_, n + 1, c1⟩, e1, rfl, e2, ⟨k.os, k.tape, k.output, k.size, fun q hq hnq => k.block q hq (fun e => hnq (by have e' : q = g := e; subst e'; rfl))⟩, newOr_of (.inl rfl)⟩
    · refine (insert_grow B g n c1 i ls x vb vc w O hi' (by omega) hn hv hB).mono ?_
      rintro e w' ⟨h', e1, e2, e3, k, no⟩
      exact ⟨h', e1, e2, e3, ⟨k.os, k.tape, k.output, k.size, fun q hq hnq => k.later q hq⟩, no⟩
end Go.Proofs.YtfcpbpfemmdklaaGreat.Tr
