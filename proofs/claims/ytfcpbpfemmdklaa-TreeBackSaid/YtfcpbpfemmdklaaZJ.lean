/- Painting (33). -/
import Derived.Test.YtfcpbpfemmdklaaZI
import Derived.Test.YtfcpbpfemmdklaaZA
namespace Go.Proofs.Ytfcpbpfemmdklaa
open Go.RowKit Go.Lib
set_option linter.unusedSimpArgs false
set_option linter.unusedVariables false

/-- So many rows painted. -/
def paintN (W y x : Int) (wn : Nat) (pix : List Int) : Nat → List Int → List Int
  | 0, p => p
  | r + 1, p => prow W (y + (r : Int)) x 0 ((pix.drop (r * wn)).take wn) (paintN W y x wn pix r p)
theorem paintN_len (W y x : Int) (wn : Nat) (pix : List Int) : ∀ (r : Nat) (p : List Int), (paintN W y x wn pix r p).length = p.length
  | 0, p => rfl
  | r + 1, p => by rw [paintN, prow_len, paintN_len W y x wn pix r]
def setP (d : Dat) (p : List Int) : Dat := { d with p := p }
def formP (w h : Int) (pix : List Int) : Bool := sideP w && (sideP h && (decide ((pix.length : Int) = w * h) && pix.all pixB))
/-- What painting leaves. -/
def paintP (ls : List Lay) (id x y w h : Int) (pix : List Int) : Except Int (List Lay) :=
  if id = 0 then .error 41 else
  match fnd id ls with
  | none => .error 40
  | some r =>
    if r.d.kind = 0 then
      if formP w h pix = false then .error 25 else
      if (shiftP x && shiftP y) = false then .error 31 else
      .ok (plugP r.C (r.pre ++ .mk (setP r.d (paintN r.d.w y x w.toNat pix h.toNat r.d.p)) r.kids :: r.post))
    else .error 41
theorem kind_doc (id kind : Int) (R : Nat) (h : Hd) (ls : List Loc) :
    (id = 0 ∧ kindV id kind (sps 0 R 3 0 h.b h.o 0 ls) = (none, 41)) ∨
    (id ≠ 0 ∧ fnd id (er ls) = none ∧ kindV id kind (sps 0 R 3 0 h.b h.o 0 ls) = (none, 40)) ∨
    ∃ C pre l post h', id ≠ 0 ∧ fnd id (er ls) = some ⟨C.map Frm.er, er pre, l.dat, er l.kids, er post⟩ ∧ plugH C h' = h ∧ plugL C h' (pre ++ l :: post) = ls ∧
      kindV id kind (sps 0 R 3 0 h.b h.o 0 ls) = if l.dat.kind = kind then (some ⟨h'.b, h'.o + pre.length * 19, none⟩, 0) else (none, 41) := by
  unfold kindV
  by_cases h0 : id = 0
  · exact .inl ⟨h0, by rw [if_pos h0]⟩
  · rw [if_neg h0]
    rcases find_doc id R h ls with ⟨a, b⟩ | ⟨C, pre, l, post, h', a1, a2, a3, a4⟩
    · exact .inr (.inl ⟨h0, b, by rw [a]⟩)
    · refine .inr (.inr ⟨C, pre, l, post, h', h0, a2, a3, a4, ?_⟩)
      rw [a1]
      rfl
/-- A part of a row that may be read. -/
theorem sliceI {w : World} {pb po pn pc : Nat} {l : List Int} (D : ReadR w 3 1 ⟨some ⟨pb, po, none⟩, pn, pc⟩ (ints l)) {lo m : Nat} (h : lo + m ≤ pn) : ReadR w 3 1 ⟨some ⟨pb, po + lo, none⟩, m, pc - lo⟩ (ints ((l.drop lo).take m)) := by
  have hl : l.length = pn := by
    have h1 := D.1.len
    have h2 : (ints l).length = l.length := by simp [ints]
    have h3 : (ints l).length = pn * 1 := h1
    omega
  have hc : pn ≤ pc := D.1.cap
  have hn : pn ≤ 536870912 := D.2
  refine ⟨⟨?_, by show m ≤ pc - lo; omega, fun e => (by cases e), ints_one _, fun x hx => ?_⟩, by show m ≤ _; omega⟩
  · show (ints ((l.drop lo).take m)).length = m * 1
    simp only [ints, List.length_map, List.length_take, List.length_drop]
    omega
  · cases hx
    obtain ⟨h1, h2, h3⟩ := D.1.at' _ rfl
    refine ⟨rfl, h2, fun j u hj => ?_⟩
    have h4 : (ints l)[lo + j]? = some u := by
      unfold ints at hj ⊢
      rw [List.map_take, List.map_drop] at hj
      have hjm : j < m := by have := (List.getElem?_eq_some_iff.1 hj).1; rw [List.length_take] at this; omega
      rw [List.getElem?_take_of_lt hjm, List.getElem?_drop] at hj
      exact hj
    have := h3 (lo + j) u h4
    rw [← Nat.add_assoc] at this
    exact this
theorem cells_setP (d : Dat) (P : List Int) (p m q k : Hd) : cells19 (setP d P) p m q k = cells19 d p m q k := rfl
theorem flat_setP (pre : List Loc) (d : Dat) (P : List Int) (p m q k : Hd) (kids post : List Loc) : flat (pre ++ .mk (setP d P) p m q k kids :: post) = flat (pre ++ .mk d p m q k kids :: post) := by
  rw [flat_append, flat_append, flat, flat]
  rfl
theorem blks_setP (pre : List Loc) (d : Dat) (P : List Int) (p m q k : Hd) (kids post : List Loc) : blks (pre ++ .mk (setP d P) p m q k kids :: post) = blks (pre ++ .mk d p m q k kids :: post) := by
  rw [blks_append, blks_append, blks_cons, blks_cons]
/-- A layer's pixels turned. -/
theorem paint_whole {B : Nat} {w w' : World} {R : Nat} {x y z : Int} {C : List Frm} {h : Hd} {pre post : List Loc} {d : Dat} {p m q k : Hd} {kids : List Loc} {P : List Int} (W : Whole B w R x y z (plugH C h) (plugL C h (pre ++ .mk d p m q k kids :: post)))
    (o : OwnR B w' 3 1 p (ints P)) (kk : Keeps (fun b => b ∈ p.blk) w w') : Whole B w' R x y z (plugH C h) (plugL C h (pre ++ .mk (setP d P) p m q k kids :: post)) := by
  obtain ⟨rowh, ownl, c0⟩ := W.ctx
  have nd := W.nd
  have out := W.out'
  rw [blks_append, blks_cons] at nd out
  rw [own_append, own_cons] at ownl
  obtain ⟨o1, o2, o3, o4, o5, o6, o7⟩ := ownl
  have ndc : ∀ b ∈ p.blk, (b ∉ h.blk ∧ b ∉ blks pre) ∧ (b ∉ m.blk ∧ b ∉ q.blk ∧ b ∉ k.blk ∧ b ∉ blks kids ∧ b ∉ blks post) ∧ b ∉ outs C := by
    intro b hb
    rw [List.nodup_iff_count] at nd
    have h1 := nd b
    simp only [List.count_append] at h1
    have hp : 1 ≤ List.count b p.blk := List.count_pos_iff.2 hb
    refine ⟨⟨fun e => ?_, fun e => ?_⟩, ⟨fun e => ?_, fun e => ?_, fun e => ?_, fun e => ?_, fun e => ?_⟩, fun e => ?_⟩ <;> (have := List.count_pos_iff.2 e; omega)
  refine Whole.swap0 _ W kk ?_ ?_ ?_ ?_ ?_
  · rintro b (rfl | hb) e
    · exact out (by simp [e])
    · exact (ndc b e).2.2 hb
  · rw [flat_setP]
    exact rowh.keepB kk (fun b hb e => (ndc b e).1.1 hb)
  · rw [own_append, own_cons]
    exact ⟨o1.keep kk (fun b hb e => (ndc b e).1.2 hb), o, o3.keepB kk (fun b hb e => (ndc b e).2.1.1 hb), o4.keepB kk (fun b hb e => (ndc b e).2.1.2.1 hb), o5.keepB kk (fun b hb e => (ndc b e).2.1.2.2.1 hb), o6.keep kk (fun b hb e => (ndc b e).2.1.2.2.2.1 hb), o7.keep kk (fun b hb e => (ndc b e).2.1.2.2.2.2 hb)⟩
  · rw [blks_setP]
    exact (List.nodup_append.1 W.nd).1
  · intro b hb
    rw [blks_setP] at hb
    exact ⟨fun e => W.out' (by rw [← e]; exact List.mem_append.2 (.inl hb)), fun e => (List.nodup_append.1 W.nd).2.2 b hb b e rfl⟩
end Go.Proofs.Ytfcpbpfemmdklaa
