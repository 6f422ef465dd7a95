/- Two rows of points that a law grows side by side. -/
import Derived.Test.YtboocllckolmgaaPA
namespace Go.Proofs.Ytboocllckolmgaa
open Go.RowKit
set_option linter.unusedVariables false

structure TwoR (w : World) (vb : Value) (bs : List Pt) (vr : Value) (rs : List Pt) (w' : World) : Prop where
  one : w'.ownsRow w.heap.size 37 2 vb bs.length (pcells bs)
  two : w'.ownsRow w.heap.size 37 2 vr rs.length (pcells rs)
  apart : ∀ g, vb.ownBlock = some g → vr.ownBlock ≠ some g
  old : Below w.heap.size w w'
theorem TwoR.swap {w w' : World} {vb vr : Value} {bs rs : List Pt} (h : TwoR w vb bs vr rs w') : TwoR w vr rs vb bs w' :=
  ⟨h.two, h.one, fun g hg hv => h.apart g hv hg, h.old⟩
theorem TwoR.later {w w1 w2 : World} {vb vr : Value} {bs rs : List Pt} (h : TwoR w vb bs vr rs w1) (hb : Below w1.heap.size w1 w2) : TwoR w vb bs vr rs w2 :=
  ⟨own_kept h.one (fun g hg => hb.block g (own_lt h.one g hg).2), own_kept h.two (fun g hg => hb.block g (own_lt h.two g hg).2), h.apart, below_more h.old hb (Nat.le_refl _)⟩
theorem TwoR.grown {w w1 w2 : World} {vb v2 vr : Value} {bs cs rs : List Pt} (h : TwoR w vb bs vr rs w1) (ho : w2.ownsRow w.heap.size 37 2 v2 cs.length (pcells cs)) (hg : w1.grownBy w2 vb.ownBlock) (hat : v2.ownBlock = vb.ownBlock ∨ v2.ownBlock = some w1.heap.size) : TwoR w v2 cs vr rs w2 := by
  refine ⟨ho, own_kept h.two (fun g e => hg.block g (own_lt h.two g e).2 (fun q => h.apart g q.symm e)), fun g e hv => ?_, ?_⟩
  · rcases hat with q | q
    · exact h.apart g (by rw [← q]; exact e) hv
    · rw [q] at e
      have := (own_lt h.two g hv).2
      cases e
      exact absurd this (Nat.lt_irrefl _)
  · exact h.old.trans ⟨hg.os, hg.tape, hg.output, hg.size, fun k hk => hg.block k (Nat.lt_of_lt_of_le hk h.old.size) (fun e => by have := (own_lt h.one k e.symm).1; omega)⟩
theorem TwoR.nil (w : World) : TwoR w (.slice none 0 0) [] (.slice none 0 0) [] w :=
  ⟨⟨rfl, .inl ⟨rfl, rfl⟩⟩, ⟨rfl, .inl ⟨rfl, rfl⟩⟩, fun g h => (by cases h), Below.refl _ _⟩

/-- Begun at another point. -/
def rotL (k : Nat) (ps : List Pt) : List Pt := ps.drop k ++ ps.take k
theorem rotL_length (k : Nat) (ps : List Pt) : (rotL k ps).length = ps.length := by
  unfold rotL
  rw [List.length_append, List.length_drop, List.length_take]; omega
theorem rotL_at {k i : Nat} {ps : List Pt} (hk : k < ps.length) (hi : i < ps.length) : (rotL k ps)[i]? = ps[(k + i) % ps.length]? := by
  unfold rotL
  by_cases h : k + i < ps.length
  · rw [List.getElem?_append_left (by rw [List.length_drop]; omega), List.getElem?_drop, Nat.mod_eq_of_lt h]
  · rw [List.getElem?_append_right (by rw [List.length_drop]; omega), List.length_drop]
    have e : (k + i) % ps.length = k + i - ps.length := by
      rw [Nat.mod_eq_sub_mod (by omega), Nat.mod_eq_of_lt (by omega)]
    rw [e, List.getElem?_take_of_lt (by omega)]
    congr 1
    omega
theorem rotL_all {k : Nat} {ps : List Pt} (h : ps.all near = true) : (rotL k ps).all near = true := by
  rw [List.all_eq_true] at h ⊢
  intro p hp
  unfold rotL at hp
  rw [List.mem_append] at hp
  rcases hp with hp | hp
  · exact h p (List.mem_of_mem_drop hp)
  · exact h p (List.mem_of_mem_take hp)
theorem area_rotL (k : Nat) (ps : List Pt) : areaZ (rotL k ps) = areaZ ps := by
  unfold rotL
  rw [area_rot, List.take_append_drop]
theorem shape_of {ps qs : List Pt} (h : shape ps = true) (hl : qs.length = ps.length) (hn : qs.all near = true) : shape qs = true := by
  obtain ⟨l1, l2, _⟩ := shape_len h
  unfold shape
  rw [hn, hl]
  simp; omega
theorem reverse_at {ps : List Pt} {i m n : Nat} (hl : ps.length = n) (hi : i < n) (hm : m = n - 1 - i) : ps.reverse[i]? = ps[m]? := by
  subst hl hm
  rw [List.getElem?_reverse hi]
end Go.Proofs.Ytboocllckolmgaa
