/- A document's homes (47), where their headers lie; a new layer put in. -/
import Derived.Test.YtfcpbpfemmdklaaY
import Derived.Test.YtfcpbpfemmdklaaX
import Derived.Test.YtfcpbpfemmdklaaT
import Derived.Test.YtfcpbpfemmdklaaW
namespace Go.Proofs.Ytfcpbpfemmdklaa
open Go.RowKit Go.Lib
set_option linter.unusedSimpArgs false
set_option linter.unusedVariables false

theorem home_doc (id : Int) (R : Nat) (h : Hd) (ls : List Loc) :
    (∃ f, (f = 40 ∨ f = 41) ∧ homeP id (er ls) = .error f ∧ groupV R id (sps 0 R 3 0 h.b h.o 0 ls) = (homeV 0 none 0, f)) ∨
    ∃ C h' ls', homeP id (er ls) = .ok (C.map Frm.er, er ls') ∧ groupV R id (sps 0 R 3 0 h.b h.o 0 ls) = (homeV (idOf C) (some ⟨kbOf R C, koOf C, none⟩) ((C.length : Nat) : Int), 0) ∧ plugH C h' = h ∧ plugL C h' ls' = ls := by
  unfold homeP groupV
  by_cases h0 : id = 0
  · rw [if_pos h0, if_pos h0]
    exact .inr ⟨[], h, ls, rfl, rfl, rfl, rfl⟩
  · rw [if_neg h0, if_neg h0]
    rcases find_doc id R h ls with ⟨a, b⟩ | ⟨C, pre, l, post, h', a1, a2, a3, a4⟩
    · rw [a, b]
      exact .inl ⟨40, .inl rfl, rfl, rfl⟩
    · rw [a1, a2]
      simp only
      by_cases hk : l.dat.kind = 1
      · have hk2 : (sptOf R C h' pre.length l).l.dat.kind = 1 := hk
        rw [if_pos hk, if_pos hk2]
        cases l with
        | mk d p m q k kids =>
          exact .inr ⟨⟨h', pre, d, p, m, q, post⟩ :: C, k, kids, rfl, rfl, a3, a4⟩
      · have hk2 : ¬ (sptOf R C h' pre.length l).l.dat.kind = 1 := hk
        rw [if_neg hk, if_neg hk2]
        exact .inl ⟨41, .inr rfl, rfl, rfl⟩
/-- Where a home's header lies. -/
theorem Whole.at_ {B : Nat} {w : World} {R : Nat} {x y z : Int} {C : List Frm} {h : Hd} {ls : List Loc} (W : Whole B w R x y z (plugH C h) (plugL C h ls)) :
    w.cell? ⟨kbOf R C, koOf C, none⟩ = some (.slice h.a h.n h.c) ∧ w.frozen? ⟨kbOf R C, koOf C, none⟩ = false := by
  obtain ⟨-, -, c0⟩ := W.ctx
  cases C with
  | nil =>
    have d := W.doc
    exact ⟨Dc.c3 (x := x) (y := y) (z := z) (h := h) d, Dc.fr (x := x) (y := y) (z := z) (h := h) d⟩
  | cons f C =>
    rw [CtxOwn] at c0
    have r := c0.1
    have hn : 0 < f.h.n := by
      have h1 := r.1.1
      have h2 := row_pos f h []
      rcases Nat.eq_zero_or_pos f.h.n with e | e
      · rw [e] at h1; omega
      · exact e
    obtain ⟨g, c, cur, e, hB, hh, hc, hs, ht⟩ := r.some hn
    have eb : f.h.b = g := by rw [e]; rfl
    have eo : f.h.o = 0 := by rw [e]; rfl
    have h3 := flat_at (f.row h []) f.pre.length (.mk f.d f.p f.m f.q h []) (by unfold Frm.row; rw [List.getElem?_append_right (Nat.le_refl _), Nat.sub_self]; rfl) 18 (.slice h.a h.n h.c) rfl
    have h4 := row_pos f h []
    have h5 : (flat (f.row h [])).length = f.h.n * 19 := r.1.1
    have hko : koOf (f :: C) = f.pre.length * 19 + 18 := by simp [koOf, eo]
    have hkb : kbOf R (f :: C) = g := eb
    rw [hko, hkb]
    refine ⟨?_, by simp [World.frozen?, hh]⟩
    rw [cell_of_row _ _ _ _ _ _ hh, ← Array.getElem?_toList]
    rw [← ht, List.getElem?_take_of_lt (by omega)] at h3
    exact h3
theorem Whole.len {B : Nat} {w : World} {R : Nat} {x y z : Int} {C : List Frm} {h : Hd} {ls : List Loc} (W : Whole B w R x y z (plugH C h) (plugL C h ls)) : h.n = ls.length := by
  have h1 := W.ctx.1.1.1
  rw [flat_length] at h1
  omega
theorem dats_len : ∀ (ls : List Lay), ls.length ≤ (dats ls).length
  | [] => by rw [dats]; exact Nat.le_refl _
  | .mk d kids :: ls => by
    have := dats_len ls
    rw [dats]
    simp only [List.length_cons, List.length_append]
    omega
theorem pcnt_plug (C : List PFrm) (xs : List Lay) : pcnt (plugP C xs) = pcnt xs + (datsC C).length := by
  unfold pcnt
  rw [(dats_plug C xs).length_eq, List.length_append]
theorem ctx_depth : ∀ C : List PFrm, C.length ≤ (datsC C).length
  | [] => Nat.zero_le _
  | f :: C => by
    have := ctx_depth C
    rw [datsC]
    simp only [List.length_cons, List.length_append]
    omega
theorem len_small {C : List Frm} {h : Hd} {ls ls0 : List Loc} (e : plugL C h ls = ls0) (hc : pcnt (er ls0) ≤ 4096) : ls.length ≤ 4096 ∧ C.length ≤ 4096 := by
  have h1 := pcnt_plug (C.map Frm.er) (er ls)
  rw [← er_plug C h ls, e] at h1
  have h2 := dats_len (er ls)
  have h3 := ctx_depth (C.map Frm.er)
  rw [er_length] at h2
  rw [List.length_map] at h3
  unfold pcnt at h1 hc
  omega
theorem Whole.later {B : Nat} {w w' : World} {R : Nat} {x y z : Int} {h : Hd} {ls : List Loc} (W : Whole B w R x y z h ls) (k : Keeps none' w w') : Whole B w' R x y z h ls :=
  ⟨(k.later R (lt_of_block W.doc)).trans W.doc, W.row.later k, W.own.later k, W.nodup, W.out⟩
theorem Whole.docV {B : Nat} {w : World} {R : Nat} {x y z : Int} {h : Hd} {ls : List Loc} (W : Whole B w R x y z h ls) : DocV w h ls := ⟨W.row.read.1, W.own.rep⟩
theorem Whole.low {B B' : Nat} {w : World} {R : Nat} {x y z : Int} {h : Hd} {ls : List Loc} (W : Whole B w R x y z h ls) (hB : B' ≤ B) : Whole B' w R x y z h ls := ⟨W.doc, W.row.low hB, W.own.low hB, W.nodup, W.out⟩
theorem er_map : ∀ ls : List Loc, er ls = ls.map (fun l => Lay.mk l.dat (er l.kids))
  | [] => by rw [er]; rfl
  | l :: ls => by rw [er_cons, er_map ls, List.map_cons]
theorem insAt_er (at_ : Int) (i : Nat) (lx : Loc) (ls : List Loc) (hi : i ≤ ls.length) (hat : at_ = (i : Int) ∨ (at_ = -1 ∧ i = ls.length)) : er (ls.take i ++ lx :: ls.drop i) = insAt at_ (.mk lx.dat (er lx.kids)) (er ls) := by
  have e1 : ∀ j, er (ls.take j) = (er ls).take j := fun j => by rw [er_map, er_map ls, List.map_take]
  have e2 : ∀ j, er (ls.drop j) = (er ls).drop j := fun j => by rw [er_map, er_map ls, List.map_drop]
  rw [er_append, er_cons, e1, e2 i]
  unfold insAt
  rcases hat with e | ⟨e, e'⟩
  · rw [if_neg (by omega), e, Int.toNat_natCast]
  · rw [if_pos e, e', List.take_of_length_le (by rw [er_length]; omega), List.drop_of_length_le (by rw [er_length]; omega)]
/-- A layer put into a document's home, whole. -/
theorem put_doc {B : Nat} {w w3 : World} {R : Nat} {x y z : Int} {C : List Frm} {h : Hd} {ls : List Loc} {lx : Loc} (at_ : Int) (i : Nat) (W : Whole B w3 R x y z (plugH C h) (plugL C h ls)) (kw : Keeps (fun q => B ≤ q) w w3) (hBR : B ≤ R) (hBw : B ≤ w3.heap.size)
    (ox : Own B w3 [lx]) (nx : (blks [lx]).Nodup) (dx : ∀ b ∈ blks [lx], b ≠ R ∧ b ∉ (h.blk ++ blks ls) ++ outs C) (hi : i ≤ ls.length) (hsm : ls.length < 536870912) (hat : at_ = (i : Int) ∨ (at_ = -1 ∧ i = ls.length)) (id : Int) (dep : Nat) :
    Calls Try.prog 48 #[.agg #[.int .i64 id, .pointer (some ⟨kbOf R C, koOf C, none⟩), .int .i64 (dep : Int)], .int .i64 at_, .agg lx.cells.toArray] w3 fun e w' =>
      e = .returned (.tuple #[]) ∧ ∃ h' lsL, er lsL = plugP (C.map Frm.er) (insAt at_ (.mk lx.dat (er lx.kids)) (er ls)) ∧ Whole B w' R x y z h' lsL ∧ Keeps (fun q => B ≤ q) w w' := by
  obtain ⟨a1, a2⟩ := W.at_
  have hn := W.len
  obtain ⟨rowh, -, c0⟩ := W.ctx
  have kbm := kb_mem R c0
  have out := W.out'
  have ndo := List.nodup_append.1 W.nd
  have hne : (Value.slice h.a h.n h.c).ownBlock ≠ some (kbOf R C) := by
    intro e
    have e1 := ownBlock_blk.1 e
    rcases kbm with e2 | e2
    · exact out (by rw [← e2]; simp [e1])
    · exact ndo.2.2 _ (List.mem_append.2 (.inl e1)) _ e2 rfl
  refine (put_any B id (kbOf R C) (koOf C) dep h ls at_ i lx w3 a1 a2 rowh hBw (by omega) (by omega) (hat.imp (fun e => e) (fun e => ⟨e.1, by omega⟩)) hne).mono ?_
  rintro e w' ⟨h', W1, rfl, e2, e3, k1, rfl, no⟩
  obtain ⟨W2, k2⟩ := put_whole W ox nx dx e3 k1 no
  refine ⟨rfl, _, _, ?_, W2, kw.trans k2 (fun q hq e => ?_)⟩
  · rw [er_plug, insAt_er at_ i lx ls hi hat]
  · rcases e with e | e
    · exact (W.lt q (by simp [e])).1
    · rcases kbm with e2 | e2
      · omega
      · rw [e]; exact (W.lt _ (List.mem_append.2 (.inr e2))).1
end Go.Proofs.Ytfcpbpfemmdklaa
