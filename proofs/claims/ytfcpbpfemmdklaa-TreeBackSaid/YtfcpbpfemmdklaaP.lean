/- A layer found by its number, in plain words and in memory. -/
import Derived.Test.YtfcpbpfemmdklaaO
namespace Go.Proofs.Ytfcpbpfemmdklaa
open Go.RowKit
set_option linter.unusedSimpArgs false
set_option linter.unusedVariables false

/-- A row with a hole, in plain words. -/
structure PFrm where
  pre : List Lay
  d : Dat
  post : List Lay
def plugP : List PFrm → List Lay → List Lay
  | [], ls => ls
  | f :: C, ls => plugP C (f.pre ++ .mk f.d ls :: f.post)
/-- Where a layer stands: the way to its home, what stands ahead of it, what it has, its kids, what stands behind it. -/
structure At' where
  C : List PFrm
  pre : List Lay
  d : Dat
  kids : List Lay
  post : List Lay
/-- The first layer of a number, each ahead of the ones within it. -/
def go (id : Int) : List PFrm → List Lay → List Lay → Option At'
  | _, _, [] => none
  | C, pre, .mk d kids :: ls => if d.id = id then some ⟨C, pre, d, kids, ls⟩ else
    match go id (⟨pre, d, ls⟩ :: C) [] kids with
    | some r => some r
    | none => go id C (pre ++ [.mk d kids]) ls
def fnd (id : Int) (ls : List Lay) : Option At' := go id [] [] ls
theorem go_plug (id : Int) : ∀ (n : Nat) (ls : List Lay), SizeOf.sizeOf ls ≤ n → ∀ (C : List PFrm) (pre : List Lay) (r : At'), go id C pre ls = some r → plugP r.C (r.pre ++ .mk r.d r.kids :: r.post) = plugP C (pre ++ ls) ∧ r.d.id = id
  | 0, ls, hs, _, _, _, _ => by cases ls <;> simp at hs
  | n + 1, [], hs, C, pre, r, h => by rw [go] at h; cases h
  | n + 1, .mk d kids :: ls, hs, C, pre, r, h => by
    rw [go] at h
    simp only [List.cons.sizeOf_spec, Lay.mk.sizeOf_spec] at hs
    by_cases hd : d.id = id
    · rw [if_pos hd] at h
      cases h
      exact ⟨rfl, hd⟩
    · rw [if_neg hd] at h
      cases hk : go id (⟨pre, d, ls⟩ :: C) [] kids with
      | some r' =>
        rw [hk] at h
        cases h
        obtain ⟨h1, h2⟩ := go_plug id n kids (by omega) _ _ _ hk
        exact ⟨by rw [h1]; rfl, h2⟩
      | none =>
        rw [hk] at h
        obtain ⟨h1, h2⟩ := go_plug id n ls (by omega) _ _ _ h
        exact ⟨by rw [h1]; simp, h2⟩
theorem fnd_plug {id : Int} {ls : List Lay} {r : At'} (h : fnd id ls = some r) : plugP r.C (r.pre ++ .mk r.d r.kids :: r.post) = ls ∧ r.d.id = id := by
  have := go_plug id _ ls (Nat.le_refl _) [] [] r h
  simpa [plugP] using this
def Frm.er (f : Frm) : PFrm := ⟨Go.Proofs.Ytfcpbpfemmdklaa.er f.pre, f.d, Go.Proofs.Ytfcpbpfemmdklaa.er f.post⟩
theorem er_row (f : Frm) (h : Hd) (ls : List Loc) : er (f.row h ls) = f.er.pre ++ .mk f.er.d (er ls) :: f.er.post := by
  unfold Frm.row
  rw [er_append, er]
  rfl
theorem er_plug : ∀ (C : List Frm) (h : Hd) (ls : List Loc), er (plugL C h ls) = plugP (C.map Frm.er) (er ls)
  | [], h, ls => rfl
  | f :: C, h, ls => by rw [plugL, er_plug C f.h (f.row h ls), er_row]; rfl
theorem er_cons (l : Loc) (ls : List Loc) : er (l :: ls) = .mk l.dat (er l.kids) :: er ls := by cases l; rw [er]; rfl
/-- A spot and the way to it. -/
def sptOf (R : Nat) (C : List Frm) (h : Hd) (i : Nat) (l : Loc) : Spt := ⟨idOf C, kbOf R C, koOf C, C.length, i, l, h.b, h.o + i * 19⟩
theorem find_append (id : Int) (xs ys : List Spt) : findP id (xs ++ ys) = (findP id xs).or (findP id ys) := by unfold findP; rw [List.find?_append]
theorem find_go (id : Int) (R : Nat) : ∀ (n : Nat) (ls : List Loc), SizeOf.sizeOf ls ≤ n → ∀ (C : List Frm) (pre : List Loc) (h : Hd),
    (findP id (sps (idOf C) (kbOf R C) (koOf C) C.length h.b h.o pre.length ls) = none ∧ go id (C.map Frm.er) (er pre) (er ls) = none) ∨
    ∃ C' pre' l post h', findP id (sps (idOf C) (kbOf R C) (koOf C) C.length h.b h.o pre.length ls) = some (sptOf R C' h' pre'.length l) ∧ go id (C.map Frm.er) (er pre) (er ls) = some ⟨C'.map Frm.er, er pre', l.dat, er l.kids, er post⟩ ∧
      plugH C' h' = plugH C h ∧ plugL C' h' (pre' ++ l :: post) = plugL C h (pre ++ ls)
  | 0, ls, hs, _, _, _ => by cases ls <;> simp at hs
  | n + 1, [], hs, C, pre, h => by
    refine .inl ⟨?_, ?_⟩
    · rw [sps]; rfl
    · rw [er, go]
  | n + 1, .mk d p m q k kids :: ls, hs, C, pre, h => by
    simp only [List.cons.sizeOf_spec, Loc.mk.sizeOf_spec] at hs
    rw [sps, er, go]
    by_cases hd : d.id = id
    · refine .inr ⟨C, pre, .mk d p m q k kids, ls, h, ?_, ?_, rfl, rfl⟩
      · exact findP_some (q := []) (fun x hx => by cases hx) hd
      · rw [if_pos hd]; rfl
    · rw [if_neg hd]
      have e1 : ∀ xs ys : List Spt, findP id (⟨idOf C, kbOf R C, koOf C, C.length, pre.length, .mk d p m q k kids, h.b, h.o + pre.length * 19⟩ :: (xs ++ ys)) = (findP id xs).or (findP id ys) := by
        intro xs ys
        rw [← find_append]
        unfold findP
        rw [List.find?_cons]
        have : ((Loc.mk d p m q k kids).dat.id == id) = false := by simpa [Loc.dat] using hd
        simp [this]
      rw [e1]
      rcases find_go id R n kids (by omega) (⟨h, pre, d, p, m, q, ls⟩ :: C) [] k with ⟨a1, a2⟩ | ⟨C', pre', l, post, h', a1, a2, a3, a4⟩
      · have a1' : findP id (sps d.id h.b (h.o + pre.length * 19 + 18) (C.length + 1) k.b k.o 0 kids) = none := a1
        have a2' : go id (⟨er pre, d, er ls⟩ :: C.map Frm.er) [] (er kids) = none := by simpa [er, Frm.er] using a2
        rw [a1', a2', Option.none_or]
        have b := find_go id R n ls (by omega) C (pre ++ [.mk d p m q k kids]) h
        rw [List.length_append, List.length_singleton, er_append] at b
        have e2 : er [Loc.mk d p m q k kids] = [Lay.mk d (er kids)] := by rw [er, er]
        rw [e2, List.append_assoc] at b
        exact b
      · have a1' : findP id (sps d.id h.b (h.o + pre.length * 19 + 18) (C.length + 1) k.b k.o 0 kids) = some (sptOf R C' h' pre'.length l) := a1
        have a2' : go id (⟨er pre, d, er ls⟩ :: C.map Frm.er) [] (er kids) = some ⟨C'.map Frm.er, er pre', l.dat, er l.kids, er post⟩ := by simpa [er, Frm.er] using a2
        rw [a1', a2', Option.some_or]
        exact .inr ⟨C', pre', l, post, h', rfl, rfl, a3, a4⟩
/-- A document's layer of a number. -/
theorem find_doc (id : Int) (R : Nat) (h : Hd) (ls : List Loc) :
    (findP id (sps 0 R 3 0 h.b h.o 0 ls) = none ∧ fnd id (er ls) = none) ∨
    ∃ C pre l post h', findP id (sps 0 R 3 0 h.b h.o 0 ls) = some (sptOf R C h' pre.length l) ∧ fnd id (er ls) = some ⟨C.map Frm.er, er pre, l.dat, er l.kids, er post⟩ ∧ plugH C h' = h ∧ plugL C h' (pre ++ l :: post) = ls := by
  rcases find_go id R _ ls (Nat.le_refl _) [] [] h with ⟨a, b⟩ | ⟨C', pre', l, post, h', a1, a2, a3, a4⟩
  · exact .inl ⟨a, by simpa [er, fnd] using b⟩
  · exact .inr ⟨C', pre', l, post, h', a1, by simpa [er, fnd] using a2, a3, a4⟩
end Go.Proofs.Ytfcpbpfemmdklaa
