/- What Find finds, as plain data; what its tokens bring. -/
import Derived.Test.YtaandnikamnbbaaL
import Derived.Test.YtaandnikamnbbaaHP
namespace Go.Proofs.Ytaandnikamnbbaa
open Go.RowKit
set_option linter.unusedVariables false

theorem common_three_le {xs zs : List Nat} (h : xs.take 3 = zs.take 3) (hl : 3 ≤ xs.length) : 3 ≤ common xs zs := by
  match xs, zs, h, hl with
  | a :: b :: c :: xs, [], h, _ => simp at h
  | a :: b :: c :: xs, [x], h, _ => simp at h
  | a :: b :: c :: xs, [x, y], h, _ => simp at h
  | a :: b :: c :: xs, x :: y :: z :: zs, h, _ =>
    simp only [List.take_succ_cons, List.take_zero, List.cons.injEq, and_true] at h
    obtain ⟨rfl, rfl, rfl⟩ := h
    simp [common]
  | [], _, _, hl => simp at hl
  | [a], _, _, hl => simp at hl
  | [a, b], _, _, hl => simp at hl

/-- How long a copy at a place may be, and of which bytes. -/
def restLen (n p : Nat) : Nat := min (p + 258) n - p
def restOf (ys : List Nat) (p : Nat) : List Nat := (ys.drop p).take (restLen ys.length p)
theorem restOf_length (ys : List Nat) (p : Nat) : (restOf ys p).length = restLen ys.length p := by
  unfold restOf restLen
  rw [List.length_take, List.length_drop]
  omega
/-- The longest copy that is found from here on. -/
def seek (ys : List Nat) (p : Nat) : Nat → Nat → Nat → Nat → Nat × Nat
  | 0, _, L, D => (L, D)
  | k + 1, fr, L, D =>
    if (Lz.backs ys).getD fr 0 = 0 then (L, D)
    else if 32768 < p - (fr - (Lz.backs ys).getD fr 0) ∨ L = restLen ys.length p then (L, D)
    else if L < common (restOf ys p) (ys.drop (fr - (Lz.backs ys).getD fr 0)) then seek ys p k (fr - (Lz.backs ys).getD fr 0) (common (restOf ys p) (ys.drop (fr - (Lz.backs ys).getD fr 0))) (p - (fr - (Lz.backs ys).getD fr 0))
    else seek ys p k (fr - (Lz.backs ys).getD fr 0) L D
/-- The token that is found for a place. -/
def tokOf (ys : List Nat) (p : Nat) (r : Nat × Nat) : Tok := ⟨(r.1 : Nat), (r.2 : Nat), if r.1 = 0 then ys.getD p 0 else 0⟩
def atP (ys : List Nat) (tries p : Nat) : Tok := if ys.length ≤ p then ⟨0, 0, 0⟩ else tokOf ys p (seek ys p tries p 0 0)
/-- A copy that brings what stands at a place. -/
def Fine (ys : List Nat) (p L D : Nat) : Prop := 3 ≤ L ∧ L ≤ 258 ∧ 1 ≤ D ∧ D ≤ 32768 ∧ D ≤ p ∧ p + L ≤ ys.length ∧ ∀ i, i < L → ys[p + i]? = ys[p - D + i]?
theorem same3_trans {ys : List Nat} {a b c : Nat} (h1 : Lz.same3 ys a b = true) (h2 : Lz.same3 ys b c = true) : Lz.same3 ys a c = true := by
  rw [Lz.same3_iff] at *
  exact ⟨h1.1.trans h2.1, h1.2.1.trans h2.2.1, h1.2.2.trans h2.2.2⟩
theorem rest_three {ys : List Nat} {p f : Nat} (hp : p + 2 < ys.length) (hf : f + 2 < ys.length) (hs : Lz.same3 ys f p = true) : 3 ≤ common (restOf ys p) (ys.drop f) := by
  have hl : 3 ≤ restLen ys.length p := by unfold restLen; omega
  refine common_three_le ?_ (by rw [restOf_length]; exact hl)
  unfold restOf
  rw [List.take_take, Nat.min_eq_left hl, drop_three hp, drop_three hf]
  rw [Lz.same3_iff] at hs
  simp only [List.take_succ_cons, List.take_zero, hs.1, hs.2.1, hs.2.2]
theorem rest_fine {ys : List Nat} {p f : Nat} (hp : p + 2 < ys.length) (hf : f + 2 < ys.length) (hfp : f < p) (hs : Lz.same3 ys f p = true) (hd : p - f ≤ 32768) : Fine ys p (common (restOf ys p) (ys.drop f)) (p - f) := by
  have h3 := rest_three hp hf hs
  have hle := common_le (restOf ys p) (ys.drop f)
  have hsm := common_same (restOf ys p) (ys.drop f)
  rw [restOf_length] at hle
  have hr : restLen ys.length p ≤ 258 ∧ p + restLen ys.length p ≤ ys.length := by unfold restLen; omega
  refine ⟨h3, by omega, by omega, hd, by omega, by omega, fun i hi => ?_⟩
  have h := hsm i hi
  unfold restOf at h
  rw [List.getElem?_take_of_lt (by omega), List.getElem?_drop, List.getElem?_drop] at h
  rw [h, show p - (p - f) = f by omega]
theorem seek_fine {ys : List Nat} (hy : ∀ y ∈ ys, y < 256) (p k fr L D : Nat) (hfr : fr = p ∨ (fr < p ∧ fr + 2 < ys.length ∧ p + 2 < ys.length ∧ Lz.same3 ys fr p = true)) (hL : (L = 0 ∧ D = 0) ∨ Fine ys p L D) :
    ((seek ys p k fr L D).1 = 0 ∧ (seek ys p k fr L D).2 = 0) ∨ Fine ys p (seek ys p k fr L D).1 (seek ys p k fr L D).2 := by
  induction k generalizing fr L D with
  | zero => exact hL
  | succ k ih =>
    rw [seek]
    split
    · exact hL
    · rename_i hz
      have hg := Lz.backs_good hy fr
      rcases hg with hg | ⟨g1, g2, g3, g4⟩
      · exact absurd hg hz
      · generalize (Lz.backs ys).getD fr 0 = z at *
        have hp2 : p + 2 < ys.length := by rcases hfr with rfl | h <;> omega
        have hs : Lz.same3 ys (fr - z) p = true := by
          rcases hfr with rfl | h
          · exact g4
          · exact same3_trans g4 h.2.2.2
        have hfp : fr - z < p := by rcases hfr with rfl | h <;> omega
        split
        · exact hL
        · rename_i hst
          have hst1 : p - (fr - z) ≤ 32768 := by omega
          split
          · exact ih _ _ _ (Or.inr ⟨hfp, by omega, hp2, hs⟩) (Or.inr (rest_fine hp2 (by omega) hfp hs hst1))
          · exact ih _ _ _ (Or.inr ⟨hfp, by omega, hp2, hs⟩) hL
theorem seek_le (ys : List Nat) (p k fr L D : Nat) : L ≤ (seek ys p k fr L D).1 := by
  induction k generalizing fr L D with
  | zero => exact Nat.le_refl _
  | succ k ih =>
    rw [seek]
    split
    · exact Nat.le_refl _
    · split
      · exact Nat.le_refl _
      · split
        · rename_i h
          exact Nat.le_trans (Nat.le_of_lt h) (ih _ _ _)
        · exact ih _ _ _
/-- Three bytes stood ahead, too. -/
def There (ys : List Nat) (p : Nat) : Prop := p + 3 ≤ ys.length ∧ ∃ d, 1 ≤ d ∧ d ≤ p ∧ d ≤ 32768 ∧ Lz.same3 ys (p - d) p = true
theorem seek_there {ys : List Nat} (hy : ∀ y ∈ ys, y < 256) {p k : Nat} (h : There ys p) : 0 < (seek ys p (k + 1) p 0 0).1 := by
  obtain ⟨h1, d, h2, h3, h4, h5⟩ := h
  obtain ⟨b1, b2⟩ := Lz.backs_pos hy (p := p - d) (q := p) (by omega) (by omega) h5
  have hg := Lz.backs_good hy p
  rcases hg with hg | ⟨g1, g2, g3, g4⟩
  · omega
  · have hr : 3 ≤ restLen ys.length p := by unfold restLen; omega
    rw [seek]
    generalize (Lz.backs ys).getD p 0 = z at *
    have hc := rest_three (ys := ys) (p := p) (f := p - z) (by omega) (by omega) g4
    rw [if_neg (by omega), if_neg (by omega), if_pos (by omega)]
    exact Nat.lt_of_lt_of_le (by omega) (seek_le _ _ _ _ _ _)
theorem atP_fine {ys : List Nat} (hy : ∀ y ∈ ys, y < 256) (k p : Nat) (hp : p < ys.length) : atP ys k p = lit (ys.getD p 0) ∨ ∃ L D : Nat, atP ys k p = ⟨L, D, 0⟩ ∧ Fine ys p L D := by
  unfold atP
  rw [if_neg (by omega)]
  rcases seek_fine hy p k p 0 0 (Or.inl rfl) (Or.inl ⟨rfl, rfl⟩) with ⟨h1, h2⟩ | h
  · left
    unfold tokOf
    rw [h1, h2]
    rfl
  · right
    refine ⟨_, _, ?_, h⟩
    unfold tokOf
    have := h.1
    rw [if_neg (by omega)]
theorem atP_there {ys : List Nat} (hy : ∀ y ∈ ys, y < 256) {k p : Nat} (h : There ys p) : (atP ys (k + 1) p).L ≠ 0 := by
  have h1 := seek_there hy (k := k) h
  unfold atP
  have := h.1
  rw [if_neg (by omega)]
  unfold tokOf
  simp only
  omega

/-- What is found from a place on. -/
def loopF (ys : List Nat) (tries patience : Nat) : Nat → Nat → Nat → List Tok
  | 0, _, _ => []
  | f + 1, p, passed =>
    if ys.length ≤ p then []
    else if 0 < (atP ys tries p).L ∧ passed < patience ∧ (atP ys tries p).L < (atP ys tries (p + 1)).L then lit (ys.getD p 0) :: loopF ys tries patience f (p + 1) (passed + 1)
    else atP ys tries p :: loopF ys tries patience f (p + wide (atP ys tries p)) 0
theorem loopF_end (ys : List Nat) (tries patience f p passed : Nat) (h : ys.length ≤ p) : loopF ys tries patience f p passed = [] := by
  cases f with
  | zero => rfl
  | succ f => rw [loopF, if_pos h]
def found (ys : List Nat) (effort : Int) : List Tok :=
  if effort ≤ 0 then ys.map lit else loopF ys (min effort 128).toNat (min (effort - 1) 2).toNat ys.length 0 0
/-- Tokens that spell what stands from a place on. -/
def Spell (ys : List Nat) : Nat → List Tok → Prop
  | p, [] => p = ys.length
  | p, t :: ts => ((t = lit (ys.getD p 0) ∧ p < ys.length) ∨ ∃ L D : Nat, t = ⟨L, D, 0⟩ ∧ Fine ys p L D) ∧ Spell ys (p + wide t) ts
theorem spell_nil {ys : List Nat} {p : Nat} : Spell ys p [] ↔ p = ys.length := Iff.rfl
theorem spell_cons {ys : List Nat} {p : Nat} {t : Tok} {ts : List Tok} : Spell ys p (t :: ts) ↔ ((t = lit (ys.getD p 0) ∧ p < ys.length) ∨ ∃ L D : Nat, t = ⟨L, D, 0⟩ ∧ Fine ys p L D) ∧ Spell ys (p + wide t) ts := Iff.rfl
theorem wide_lit (y : Nat) : wide (lit y) = 1 := rfl
theorem wide_copy (L D X : Nat) (h : 3 ≤ L) : wide ⟨(L : Int), (D : Int), X⟩ = L := by unfold wide; rw [if_neg (by simp; omega)]; rfl
theorem lits_spell (ys : List Nat) (p : Nat) (hp : p ≤ ys.length) : Spell ys p ((ys.drop p).map lit) := by
  obtain ⟨k, hk⟩ : ∃ k, k = ys.length - p := ⟨_, rfl⟩
  induction k generalizing p with
  | zero => rw [List.drop_of_length_le (by omega)]; exact spell_nil.2 (by omega)
  | succ k ih =>
    have hl : p < ys.length := by omega
    rw [List.drop_eq_getElem_cons hl, List.map_cons, spell_cons]
    refine ⟨Or.inl ⟨by rw [List.getD_eq_getElem?_getD, List.getElem?_eq_getElem hl]; rfl, hl⟩, ?_⟩
    rw [wide_lit]
    exact ih (p + 1) (by omega) (by omega)
theorem loopF_spell {ys : List Nat} (hy : ∀ y ∈ ys, y < 256) (tries patience f p passed : Nat) (hf : ys.length ≤ p + f) (hp : p ≤ ys.length) : Spell ys p (loopF ys tries patience f p passed) := by
  induction f generalizing p passed with
  | zero => exact spell_nil.2 (by omega)
  | succ f ih =>
    rw [loopF]
    split
    · exact spell_nil.2 (by omega)
    · rename_i h
      split
      · rw [spell_cons, wide_lit]
        exact ⟨Or.inl ⟨rfl, by omega⟩, ih _ _ (by omega) (by omega)⟩
      · rw [spell_cons]
        rcases atP_fine hy tries p (by omega) with e | ⟨L, D, e, hfi⟩
        · rw [e, wide_lit]
          exact ⟨Or.inl ⟨rfl, by omega⟩, ih _ _ (by omega) (by omega)⟩
        · have h1 := hfi.1
          have h2 := hfi.2.2.2.2.2.1
          rw [e, wide_copy L D 0 h1]
          exact ⟨Or.inr ⟨L, D, rfl, hfi⟩, ih _ _ (by omega) (by omega)⟩
theorem found_spell {ys : List Nat} (hy : ∀ y ∈ ys, y < 256) (effort : Int) : Spell ys 0 (found ys effort) := by
  unfold found
  split
  · have := lits_spell ys 0 (Nat.zero_le _)
    rwa [List.drop_zero] at this
  · exact loopF_spell hy _ _ _ _ _ (by omega) (Nat.zero_le _)
/-- A copy brings what stands there. -/
theorem fine_copied {ys : List Nat} {p L D : Nat} (h : Fine ys p L D) (k : Nat) (hk : k ≤ L) : copied D k (ys.take p) = ys.take (p + k) := by
  obtain ⟨h1, h2, h3, h4, h5, h6, h7⟩ := h
  induction k with
  | zero => rfl
  | succ k ih =>
    have e := ih (by omega)
    have hl : (ys.take (p + k)).length = p + k := by rw [List.length_take]; omega
    rw [copied, e, hl]
    have hget : ys[p + k]? = some ((ys.take (p + k)).getD (p + k - D) 0) := by
      rw [h7 k (by omega), List.getD_eq_getElem?_getD, List.getElem?_take_of_lt (by omega), show p - D + k = p + k - D by omega]
      rw [List.getElem?_eq_getElem (show p + k - D < ys.length by omega)]
      rfl
    rw [← Nat.add_assoc, take_more hget]
theorem spell_step {ys : List Nat} {p : Nat} {t : Tok} (h : (t = lit (ys.getD p 0) ∧ p < ys.length) ∨ ∃ L D : Nat, t = ⟨L, D, 0⟩ ∧ Fine ys p L D) : may t (ys.take p).length = true ∧ brought t (ys.take p) = ys.take (p + wide t) ∧ p + wide t ≤ ys.length ∧ (ys.take p).length = p ∧ 1 ≤ wide t := by
  rcases h with ⟨rfl, hp⟩ | ⟨L, D, rfl, hf⟩
  · have hget : ys[p]? = some (ys.getD p 0) := by rw [List.getD_eq_getElem?_getD, List.getElem?_eq_getElem hp]; rfl
    refine ⟨may_lit _ _, ?_, by rw [wide_lit]; omega, by rw [List.length_take]; omega, by rw [wide_lit]; omega⟩
    rw [wide_lit, take_more hget]
    rfl
  · have h := hf
    obtain ⟨h1, h2, h3, h4, h5, h6, h7⟩ := h
    have hl : (ys.take p).length = p := by rw [List.length_take]; omega
    refine ⟨by rw [hl]; simp [may]; omega, ?_, by rw [wide_copy L D 0 h1]; exact h6, hl, by rw [wide_copy L D 0 h1]; omega⟩
    rw [wide_copy L D 0 h1, ← fine_copied hf L (Nat.le_refl _)]
    unfold brought
    rw [if_neg (by simp; omega)]
    rfl
theorem spell_brings {ys : List Nat} (most : Int) (hm : (ys.length : Int) ≤ most) (p : Nat) (ts : List Tok) (h : Spell ys p ts) : brings most (ys.take p) ts = (0, ys) := by
  induction ts generalizing p with
  | nil =>
    rw [spell_nil] at h
    rw [brings_nil, List.take_of_length_le (by omega)]
  | cons t ts ih =>
    rw [spell_cons] at h
    obtain ⟨s1, s2, s3, s4, s5⟩ := spell_step h.1
    rw [brings_cons, s1, if_neg (by simp), if_neg (by omega), s2]
    exact ih _ h.2
theorem spell_short {ys : List Nat} (most : Int) (hm : most < (ys.length : Int)) (p : Nat) (hp : (p : Int) ≤ most) (ts : List Tok) (h : Spell ys p ts) : brings most (ys.take p) ts = (24, []) := by
  induction ts generalizing p with
  | nil =>
    rw [spell_nil] at h
    omega
  | cons t ts ih =>
    rw [spell_cons] at h
    obtain ⟨s1, s2, s3, s4, s5⟩ := spell_step h.1
    rw [brings_cons, s1, if_neg (by simp)]
    split
    · rfl
    · rw [s2]
      exact ih _ (by omega) h.2
theorem spell_fits {ys : List Nat} (hy : ∀ y ∈ ys, y < 256) (p : Nat) (ts : List Tok) (h : Spell ys p ts) (hn : ys.length ≤ 16777216) : ∀ t ∈ ts, Fits t := by
  induction ts generalizing p with
  | nil => intro t ht; cases ht
  | cons t ts ih =>
    rw [spell_cons] at h
    intro u hu
    rcases List.mem_cons.1 hu with rfl | hu
    · rcases h.1 with ⟨rfl, hp⟩ | ⟨L, D, rfl, hf⟩
      · refine ⟨by simp [lit], by simp [lit], ?_⟩
        show ys.getD p 0 < 256
        rw [List.getD_eq_getElem?_getD, List.getElem?_eq_getElem hp]
        exact hy _ (List.getElem_mem hp)
      · obtain ⟨h1, h2, h3, h4, h5, h6, h7⟩ := hf
        exact ⟨by simp only; omega, by simp only; omega, by simp⟩
    · exact ih _ h.2 u hu
theorem spell_length {ys : List Nat} (p : Nat) (ts : List Tok) (h : Spell ys p ts) : p + ts.length ≤ ys.length := by
  induction ts generalizing p with
  | nil => rw [spell_nil] at h; rw [List.length_nil]; omega
  | cons t ts ih =>
    rw [spell_cons] at h
    have s5 := (spell_step h.1).2.2.2.2
    have := ih _ h.2
    rw [List.length_cons]
    omega
/-- No three literals in a row where three bytes stood ahead. -/
def Snug (ys : List Nat) : Nat → Nat → List Tok → Prop
  | _, _, [] => True
  | p, k, t :: ts => (t.L ≠ 0 ∧ Snug ys (p + wide t) 0 ts) ∨ (t.L = 0 ∧ ¬ There ys p ∧ Snug ys (p + 1) 0 ts) ∨ (t.L = 0 ∧ k + 1 ≤ 2 ∧ Snug ys (p + 1) (k + 1) ts)
theorem snug_cons {ys : List Nat} {p k : Nat} {t : Tok} {ts : List Tok} : Snug ys p k (t :: ts) ↔ (t.L ≠ 0 ∧ Snug ys (p + wide t) 0 ts) ∨ (t.L = 0 ∧ ¬ There ys p ∧ Snug ys (p + 1) 0 ts) ∨ (t.L = 0 ∧ k + 1 ≤ 2 ∧ Snug ys (p + 1) (k + 1) ts) := Iff.rfl
theorem loopF_snug {ys : List Nat} (hy : ∀ y ∈ ys, y < 256) (tries patience f p passed : Nat) (ht : 1 ≤ tries) (hp : patience ≤ 2) : Snug ys p passed (loopF ys tries patience f p passed) := by
  induction f generalizing p passed with
  | zero => trivial
  | succ f ih =>
    rw [loopF]
    split
    · trivial
    · rename_i h
      split
      · rename_i h2
        rw [snug_cons]
        exact Or.inr (Or.inr ⟨rfl, by omega, ih _ _⟩)
      · rw [snug_cons]
        by_cases h0 : (atP ys tries p).L = 0
        · have hw : wide (atP ys tries p) = 1 := by unfold wide; rw [if_pos h0]
          rw [hw]
          refine Or.inr (Or.inl ⟨h0, fun hth => ?_, ih _ _⟩)
          obtain ⟨k, rfl⟩ : ∃ k, tries = k + 1 := ⟨tries - 1, by omega⟩
          exact atP_there hy hth h0
        · exact Or.inl ⟨h0, ih _ _⟩
theorem found_snug {ys : List Nat} (hy : ∀ y ∈ ys, y < 256) (effort : Int) (he : 1 ≤ effort) : Snug ys 0 0 (found ys effort) := by
  unfold found
  rw [if_neg (by omega)]
  exact loopF_snug hy _ _ _ _ _ (by omega) (by omega)
end Go.Proofs.Ytaandnikamnbbaa
