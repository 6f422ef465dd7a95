/- The way to a home: rows with a hole; what becomes of a tree in memory when one home changes. -/
import Derived.Test.YtfcpbpfemmdklaaH
namespace Go.Proofs.Ytfcpbpfemmdklaa
open Go.RowKit
set_option linter.unusedSimpArgs false
set_option linter.unusedVariables false

/-- A row with a hole: a layer in it whose kids are told elsewhere. -/
structure Frm where
  h : Hd
  pre : List Loc
  d : Dat
  p : Hd
  m : Hd
  q : Hd
  post : List Loc
def Frm.row (f : Frm) (k : Hd) (kids : List Loc) : List Loc := f.pre ++ .mk f.d f.p f.m f.q k kids :: f.post
def plugH : List Frm → Hd → Hd
  | [], h => h
  | f :: C, h => plugH C f.h
def plugL : List Frm → Hd → List Loc → List Loc
  | [], h, ls => ls
  | f :: C, h, ls => plugL C f.h (f.row h ls)
def kbOf (R : Nat) : List Frm → Nat
  | [] => R
  | f :: C => f.h.b
def koOf : List Frm → Nat
  | [] => 3
  | f :: C => f.h.o + f.pre.length * 19 + 18
def idOf : List Frm → Int
  | [] => 0
  | f :: C => f.d.id
/-- The blocks of what lies outside the home. -/
def Frm.rest (f : Frm) : List Nat := f.h.blk ++ (blks f.pre ++ (f.p.blk ++ (f.m.blk ++ (f.q.blk ++ blks f.post))))
def outs : List Frm → List Nat
  | [] => []
  | f :: C => f.rest ++ outs C
theorem blks_cons (d : Dat) (p m q k : Hd) (kids ls : List Loc) : blks (.mk d p m q k kids :: ls) = p.blk ++ (m.blk ++ (q.blk ++ (k.blk ++ (blks kids ++ blks ls)))) := by
  unfold blks
  rw [hds]
  simp [List.flatMap_append]
theorem plug_perm : ∀ (C : List Frm) (h : Hd) (ls : List Loc), ((plugH C h).blk ++ blks (plugL C h ls)).Perm ((h.blk ++ blks ls) ++ outs C)
  | [], h, ls => by simp [plugH, plugL, outs]
  | f :: C, h, ls => by
    refine (plug_perm C f.h (f.row h ls)).trans ?_
    rw [List.perm_iff_count]
    intro a
    simp only [outs, Frm.rest, Frm.row, blks_append, blks_cons, List.count_append]
    omega
/-- What lies outside the home. -/
def CtxOwn (B : Nat) (w : World) : List Frm → Hd → Prop
  | [], _ => True
  | f :: C, h => OwnR B w 48 19 f.h (flat (f.row h [])) ∧ Own B w f.pre ∧ OwnR B w 3 1 f.p (ints f.d.p) ∧ OwnR B w 5 1 f.m (bytes f.d.mask) ∧ OwnR B w 3 1 f.q (ints f.d.pars) ∧ Own B w f.post ∧ CtxOwn B w C f.h
theorem flat_row (f : Frm) (h : Hd) (ls : List Loc) : flat (f.row h ls) = flat (f.row h []) := by
  unfold Frm.row
  rw [flat_append, flat_append]
  rfl
theorem own_cons {B : Nat} {w : World} {d : Dat} {p m q k : Hd} {kids ls : List Loc} : Own B w (.mk d p m q k kids :: ls) ↔ OwnR B w 3 1 p (ints d.p) ∧ OwnR B w 5 1 m (bytes d.mask) ∧ OwnR B w 3 1 q (ints d.pars) ∧ OwnR B w 48 19 k (flat kids) ∧ Own B w kids ∧ Own B w ls := by
  unfold Own
  rw [All]
theorem own_append {B : Nat} {w : World} {xs ys : List Loc} : Own B w (xs ++ ys) ↔ Own B w xs ∧ Own B w ys := All.append
theorem ctx_iff (B : Nat) (w : World) : ∀ (C : List Frm) (h : Hd) (ls : List Loc), (OwnR B w 48 19 (plugH C h) (flat (plugL C h ls)) ∧ Own B w (plugL C h ls)) ↔ (OwnR B w 48 19 h (flat ls) ∧ Own B w ls ∧ CtxOwn B w C h)
  | [], h, ls => by simp [plugH, plugL, CtxOwn]
  | f :: C, h, ls => by
    rw [plugH, plugL, ctx_iff B w C f.h (f.row h ls), CtxOwn, flat_row f h ls]
    rw [show Own B w (f.row h ls) ↔ _ from own_append, own_cons]
    constructor
    · rintro ⟨h1, ⟨h2, h3, h4, h5, h6, h7, h8⟩, h9⟩
      exact ⟨h6, h7, h1, h2, h3, h4, h5, h8, h9⟩
    · rintro ⟨h6, h7, h1, h2, h3, h4, h5, h8, h9⟩
      exact ⟨h1, ⟨h2, h3, h4, h5, h6, h7, h8⟩, h9⟩
theorem OwnR.keepB {X : Nat → Prop} {B : Nat} {w w' : World} {e k : Nat} {h : Hd} {vs : List Value} (o : OwnR B w e k h vs) (kk : Keeps X w w') (hX : ∀ b ∈ h.blk, ¬ X b) : OwnR B w' e k h vs :=
  o.keep kk (fun x hx => hX _ (by unfold Hd.blk; rw [hx]; simp))
theorem CtxOwn.keep {X : Nat → Prop} {B : Nat} {w w' : World} (kk : Keeps X w w') : ∀ {C : List Frm} {h : Hd}, CtxOwn B w C h → (∀ b ∈ outs C, ¬ X b) → CtxOwn B w' C h
  | [], h, c, hX => by rw [CtxOwn]; trivial
  | f :: C, h, c, hX => by
    rw [CtxOwn] at c ⊢
    obtain ⟨c1, c2, c3, c4, c5, c6, c7⟩ := c
    have hX2 : ∀ b, b ∈ f.rest ∨ b ∈ outs C → ¬ X b := fun b hb => hX b (by rw [outs]; exact List.mem_append.2 hb)
    refine ⟨c1.keepB kk (fun b hb => hX2 b (.inl ?_)), c2.keep kk (fun b hb => hX2 b (.inl ?_)), c3.keepB kk (fun b hb => hX2 b (.inl ?_)), c4.keepB kk (fun b hb => hX2 b (.inl ?_)), c5.keepB kk (fun b hb => hX2 b (.inl ?_)), c6.keep kk (fun b hb => hX2 b (.inl ?_)), CtxOwn.keep kk c7 (fun b hb => hX2 b (.inr hb))⟩ <;> (unfold Frm.rest; simp [hb])
/-- A layer's header of its kids, set anew in its row. -/
theorem flat_setk (f : Frm) (h h' : Hd) : (flat (f.row h [])).set (f.pre.length * 19 + 18) (.slice h'.a h'.n h'.c) = flat (f.row h' []) := by
  unfold Frm.row
  rw [flat_append, flat_append, List.set_append_right _ _ (by rw [flat_length]; omega), flat_length, show f.pre.length * 19 + 18 - f.pre.length * 19 = 18 by omega, flat, flat]
  rfl
theorem OwnR.set1 {B : Nat} {w w' : World} {h : Hd} {vs : List Value} {i : Nat} {v : Value} (o : OwnR B w 48 19 h vs) (hi : i < vs.length) (h1 : v.oneCell' = true)
    (hk : w'.heap[h.b]? = (w.setCell ⟨h.b, h.o + i, none⟩ v).heap[h.b]?) : OwnR B w' 48 19 h (vs.set i v) := by
  have hl := o.1.1
  refine ⟨⟨by rw [List.length_set]; exact hl, ?_⟩, fun u hu => ?_, o.2.2⟩
  · obtain ⟨a, n, c⟩ := h
    rcases o.1.2 with ⟨-, e0⟩ | ⟨g, c', cur, e, hB, hh, p1, p2, p3, p4⟩
    · have e0' : n = 0 := e0
      subst e0'
      have hl' : vs.length = 0 * 19 := hl
      omega
    · simp only [Value.slice.injEq, true_and] at e
      obtain ⟨rfl, rfl⟩ := e
      have hk' : w'.heap[g]? = (w.setCell ⟨g, 0 + i, none⟩ v).heap[g]? := hk
      rw [Nat.zero_add, block_set hh] at hk'
      refine .inr ⟨g, c, cur.setIfInBounds i v, rfl, hB, hk', p1, p2, by rw [Array.size_setIfInBounds]; exact p3, ?_⟩
      rw [Array.toList_setIfInBounds, ← p4, List.take_set]
  · rcases List.mem_or_eq_of_mem_set hu with hu | rfl
    · exact o.2.1 u hu
    · exact h1
theorem OwnR.blk_eq {B : Nat} {w : World} {h : Hd} {vs : List Value} (o : OwnR B w 48 19 h vs) (hn : 0 < vs.length) : h.blk = [h.b] ∧ h.o = 0 := by
  have hl := o.1.1
  obtain ⟨a, n, c⟩ := h
  have hl2 : vs.length = n * 19 := hl
  have hn' : 0 < (⟨a, n, c⟩ : Hd).n := by
    show 0 < n
    rcases Nat.eq_zero_or_pos n with e | e
    · rw [e] at hl2; omega
    · exact e
  obtain ⟨g, c', cur, e, -⟩ := o.some hn'
  simp only [Hd.mk.injEq] at e
  obtain ⟨rfl, -, -⟩ := e
  exact ⟨rfl, rfl⟩
theorem row_pos (f : Frm) (h : Hd) (ls : List Loc) : f.pre.length * 19 + 18 < (flat (f.row h ls)).length := by
  rw [flat_length, Frm.row, List.length_append, List.length_cons]
  omega
/-- A home's header set anew in the row that it stands in. -/
theorem ctx_swap {X : Nat → Prop} {B : Nat} {w w' : World} {f : Frm} {C : List Frm} {h : Hd} (h' : Hd) (c : CtxOwn B w (f :: C) h) (k : Keeps X w w') (nd : (outs (f :: C)).Nodup) (hX : ∀ b ∈ outs (f :: C), b ≠ f.h.b → ¬ X b)
    (hk : w'.heap[f.h.b]? = (w.setCell ⟨f.h.b, koOf (f :: C), none⟩ (.slice h'.a h'.n h'.c)).heap[f.h.b]?) : CtxOwn B w' (f :: C) h' := by
  rw [CtxOwn] at c ⊢
  obtain ⟨c1, c2, c3, c4, c5, c6, c7⟩ := c
  obtain ⟨eb, eo⟩ := c1.blk_eq (by have := row_pos f h []; omega)
  have row := c1.set1 (w' := w') (i := f.pre.length * 19 + 18) (v := .slice h'.a h'.n h'.c) (row_pos f h []) rfl (by simpa [koOf, eo] using hk)
  rw [flat_setk] at row
  rw [outs, Frm.rest, eb] at nd
  simp only [List.singleton_append, List.cons_append, List.append_assoc] at nd
  have nd2 : ∀ b, b ∈ blks f.pre ∨ b ∈ f.p.blk ∨ b ∈ f.m.blk ∨ b ∈ f.q.blk ∨ b ∈ blks f.post ∨ b ∈ outs C → b ≠ f.h.b := by
    intro b hb e
    have h1 := (List.nodup_cons.1 nd).1
    refine h1 ?_
    rw [← e]
    simp only [List.mem_append]
    exact .inr hb
  have hX2 : ∀ b, b ∈ blks f.pre ∨ b ∈ f.p.blk ∨ b ∈ f.m.blk ∨ b ∈ f.q.blk ∨ b ∈ blks f.post ∨ b ∈ outs C → ¬ X b := by
    intro b hb
    refine hX b ?_ (nd2 b hb)
    rw [outs, Frm.rest]
    simp only [List.append_assoc, List.mem_append]
    exact .inr hb
  exact ⟨row, c2.keep k (fun b hb => hX2 b (by simp [hb])), c3.keepB k (fun b hb => hX2 b (by simp [hb])), c4.keepB k (fun b hb => hX2 b (by simp [hb])), c5.keepB k (fun b hb => hX2 b (by simp [hb])), c6.keep k (fun b hb => hX2 b (by simp [hb])), c7.keep k (fun b hb => hX2 b (by simp [hb]))⟩
/-- A document in memory: its block R, and all its layers in blocks of their own. -/
structure Whole (B : Nat) (w : World) (R : Nat) (x y z : Int) (h : Hd) (ls : List Loc) : Prop where
  doc : w.heap[R]? = some (.cells #[.int .i64 x, .int .i64 y, .int .i64 z, .slice h.a h.n h.c] 25 (0, 0))
  row : OwnR B w 48 19 h (flat ls)
  own : Own B w ls
  nodup : (h.blk ++ blks ls).Nodup
  out : R ∉ h.blk ++ blks ls
theorem Whole.nd {B : Nat} {w : World} {R : Nat} {x y z : Int} {C : List Frm} {h : Hd} {ls : List Loc} (W : Whole B w R x y z (plugH C h) (plugL C h ls)) : ((h.blk ++ blks ls) ++ outs C).Nodup := (plug_perm C h ls).nodup_iff.1 W.nodup
theorem Whole.out' {B : Nat} {w : World} {R : Nat} {x y z : Int} {C : List Frm} {h : Hd} {ls : List Loc} (W : Whole B w R x y z (plugH C h) (plugL C h ls)) : R ∉ (h.blk ++ blks ls) ++ outs C := fun hm => W.out ((plug_perm C h ls).mem_iff.2 hm)
theorem Whole.ctx {B : Nat} {w : World} {R : Nat} {x y z : Int} {C : List Frm} {h : Hd} {ls : List Loc} (W : Whole B w R x y z (plugH C h) (plugL C h ls)) : OwnR B w 48 19 h (flat ls) ∧ Own B w ls ∧ CtxOwn B w C h := (ctx_iff B w C h ls).1 ⟨W.row, W.own⟩
theorem Whole.mk' {B : Nat} {w : World} {R : Nat} {x y z : Int} {C : List Frm} {h : Hd} {ls : List Loc} (doc : w.heap[R]? = some (.cells #[.int .i64 x, .int .i64 y, .int .i64 z, .slice (plugH C h).a (plugH C h).n (plugH C h).c] 25 (0, 0)))
    (row : OwnR B w 48 19 h (flat ls)) (own : Own B w ls) (c : CtxOwn B w C h) (nd : ((h.blk ++ blks ls) ++ outs C).Nodup) (out : R ∉ (h.blk ++ blks ls) ++ outs C) : Whole B w R x y z (plugH C h) (plugL C h ls) :=
  ⟨doc, ((ctx_iff B w C h ls).2 ⟨row, own, c⟩).1, ((ctx_iff B w C h ls).2 ⟨row, own, c⟩).2, (plug_perm C h ls).nodup_iff.2 nd, fun hm => out ((plug_perm C h ls).mem_iff.1 hm)⟩
/-- A home turned, its header too. -/
theorem Whole.swap {X : Nat → Prop} {B : Nat} {w w' : World} {R : Nat} {x y z : Int} {C : List Frm} {h : Hd} {ls : List Loc} (h' : Hd) (ls' : List Loc) (W : Whole B w R x y z (plugH C h) (plugL C h ls)) (k : Keeps X w w')
    (hX : ∀ b, (b = R ∨ b ∈ outs C) → b ≠ kbOf R C → ¬ X b) (hk : w'.heap[kbOf R C]? = (w.setCell ⟨kbOf R C, koOf C, none⟩ (.slice h'.a h'.n h'.c)).heap[kbOf R C]?)
    (row : OwnR B w' 48 19 h' (flat ls')) (own : Own B w' ls') (nd : (h'.blk ++ blks ls').Nodup) (new : ∀ b ∈ h'.blk ++ blks ls', b ≠ R ∧ b ∉ outs C) : Whole B w' R x y z (plugH C h') (plugL C h' ls') := by
  have nd0 := W.nd
  have out0 := W.out'
  obtain ⟨-, -, c0⟩ := W.ctx
  have ndo : (outs C).Nodup := (List.nodup_append.1 nd0).2.1
  have outo : R ∉ outs C := fun hm => out0 (List.mem_append.2 (.inr hm))
  have nd1 : ((h'.blk ++ blks ls') ++ outs C).Nodup := List.nodup_append.2 ⟨nd, ndo, fun a ha b hb e => (new a ha).2 (e ▸ hb)⟩
  have out1 : R ∉ (h'.blk ++ blks ls') ++ outs C := fun hm => (List.mem_append.1 hm).elim (fun hm => (new R hm).1 rfl) outo
  cases C with
  | nil =>
    refine Whole.mk' ?_ row own (by rw [CtxOwn]; trivial) nd1 out1
    have hk' : w'.heap[R]? = (w.setCell ⟨R, 3, none⟩ (.slice h'.a h'.n h'.c)).heap[R]? := hk
    rw [hk', block_set W.doc]
    rfl
  | cons f C =>
    have c1 : CtxOwn B w' (f :: C) h' := ctx_swap h' c0 k ndo (fun b hb hne => hX b (.inr hb) hne) hk
    refine Whole.mk' ?_ row own c1 nd1 out1
    have hne : R ≠ f.h.b := by
      intro e
      rw [CtxOwn] at c0
      obtain ⟨eb, -⟩ := c0.1.blk_eq (by have := row_pos f h []; omega)
      exact outo (by rw [outs, Frm.rest, eb, e]; simp)
    exact (k.block R (lt_of_block W.doc) (hX R (.inl rfl) hne)).trans W.doc
/-- A home turned, its header as it was. -/
theorem Whole.swap0 {X : Nat → Prop} {B : Nat} {w w' : World} {R : Nat} {x y z : Int} {C : List Frm} {h : Hd} {ls : List Loc} (ls' : List Loc) (W : Whole B w R x y z (plugH C h) (plugL C h ls)) (k : Keeps X w w')
    (hX : ∀ b, (b = R ∨ b ∈ outs C) → ¬ X b)
    (row : OwnR B w' 48 19 h (flat ls')) (own : Own B w' ls') (nd : (h.blk ++ blks ls').Nodup) (new : ∀ b ∈ h.blk ++ blks ls', b ≠ R ∧ b ∉ outs C) : Whole B w' R x y z (plugH C h) (plugL C h ls') := by
  have nd0 := W.nd
  have out0 := W.out'
  obtain ⟨-, -, c0⟩ := W.ctx
  have ndo : (outs C).Nodup := (List.nodup_append.1 nd0).2.1
  have outo : R ∉ outs C := fun hm => out0 (List.mem_append.2 (.inr hm))
  refine Whole.mk' ((k.block R (lt_of_block W.doc) (hX R (.inl rfl))).trans W.doc) row own (c0.keep k (fun b hb => hX b (.inr hb))) ?_ ?_
  · exact List.nodup_append.2 ⟨nd, ndo, fun a ha b hb e => (new a ha).2 (e ▸ hb)⟩
  · exact fun hm => (List.mem_append.1 hm).elim (fun hm => (new R hm).1 rfl) outo
end Go.Proofs.Ytfcpbpfemmdklaa
