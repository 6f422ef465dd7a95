/- A shape that is cut in two along two of its points; points appended to a row. -/
import Derived.Test.YtboocllckolmgaaW
import Derived.Test.YtboocllckolmgaaMA
namespace Go.Proofs.Ytboocllckolmgaa
open Go.RowKit
set_option linter.unusedVariables false

theorem reach_flip (a b q : Pt) : reachZ a b q = reachZ b a q := by
  unfold reachZ
  by_cases h1 : b.Y < a.Y
  · rw [if_pos h1, if_neg (by omega)]
  · by_cases h2 : a.Y < b.Y
    · rw [if_neg h1, if_pos h2]
    · have e : a.Y = b.Y := by omega
      rw [if_neg h1, if_neg h2]
      have z : ∀ l u : Pt, l.Y = u.Y → halfZ l u q = 0 := fun l u h => by unfold halfZ; rw [if_pos (by omega)]
      rw [z a b e, z b a e.symm]
theorem met_flip (q a b : Pt) : metB q (a, b) = metB q (b, a) := by
  unfold metB
  simp only
  rw [reach_flip]
theorem chain_split (p : Pt) (xs : List Pt) (c : Pt) (ys : List Pt) : chainL p (xs ++ c :: ys) = chainL p (xs ++ [c]) ++ chainL c ys := by
  induction xs generalizing p with
  | nil => rfl
  | cons x xs ih => rw [List.cons_append, List.cons_append, chainL, chainL, ih, List.cons_append]
theorem lastPt_tail (xs : List Pt) (c : Pt) (ys : List Pt) : lastPt (xs ++ c :: ys) = lastPt (c :: ys) := by
  unfold lastPt
  rw [List.getLast?_append]
  cases h : (c :: ys).getLast? with
  | none => simp at h
  | some z => rfl
def one (b : Bool) : Nat := if b = true then 1 else 0
theorem hits_cons (p : Pt) (xs : List Pt) (q : Pt) : hits (sidesL (p :: xs)) q = (chainL p xs).countP (metB q) + one (metB q (lastPt (p :: xs), p)) := by
  unfold hits sidesL
  rw [chainL, List.countP_cons]; rfl
theorem hits_halves (p : Pt) (xs : List Pt) (c : Pt) (ys : List Pt) (q : Pt) :
    hits (sidesL (p :: (xs ++ [c]))) q + hits (sidesL (p :: c :: ys)) q = hits (sidesL (p :: (xs ++ c :: ys))) q + 2 * one (metB q (c, p)) := by
  rw [hits_cons, hits_cons, hits_cons, chain_split p xs c ys, List.countP_append]
  have e1 : lastPt (p :: (xs ++ [c])) = c := lastPt_append (p :: xs) c
  have e2 : lastPt (p :: c :: ys) = lastPt (c :: ys) := lastPt_tail [p] c ys
  have e3 : lastPt (p :: (xs ++ c :: ys)) = lastPt (c :: ys) := lastPt_tail (p :: xs) c ys
  rw [e1, e2, e3, chainL, List.countP_cons, met_flip q p c]
  unfold one
  omega
/-- The two halves. -/
def halfA (k : Nat) (ps : List Pt) : List Pt := ps.take (k + 1)
def halfC (k : Nat) (ps : List Pt) : List Pt := ps.take 1 ++ ps.drop k
theorem inside_halves {ps : List Pt} {k : Nat} (h1 : 1 ≤ k) (h2 : k < ps.length) (q : Pt) : insideB ps q = (insideB (halfA k ps) q != insideB (halfC k ps) q) := by
  cases ps with
  | nil => simp at h2
  | cons p t =>
    obtain ⟨j, rfl⟩ : ∃ j, k = j + 1 := ⟨k - 1, by omega⟩
    have hj : j < t.length := by simpa using h2
    have hc : t[j]? = some t[j] := List.getElem?_eq_getElem hj
    have eA : halfA (j + 1) (p :: t) = p :: (t.take j ++ [t[j]]) := by
      unfold halfA
      rw [List.take_succ_cons, take_more hc]
    have eC : halfC (j + 1) (p :: t) = p :: t[j] :: t.drop (j + 1) := by
      unfold halfC
      rw [List.take_succ_cons, List.take_zero, List.drop_succ_cons, drop_cons hc]; rfl
    have eW : p :: t = p :: (t.take j ++ t[j] :: t.drop (j + 1)) := by
      rw [← drop_cons hc, List.take_append_drop]
    have key := hits_halves p (t.take j) t[j] (t.drop (j + 1)) q
    rw [← eA, ← eC, ← eW] at key
    unfold insideB
    rw [← par_add, key]
    congr 1
    apply propext
    omega
theorem halfA_shape {ps : List Pt} {k : Nat} (hs : shape ps = true) (h1 : 2 ≤ k) (h2 : k + 1 ≤ ps.length) : shape (halfA k ps) = true ∧ (halfA k ps).length = k + 1 := by
  obtain ⟨l1, l2, l3⟩ := shape_len hs
  have hl : (halfA k ps).length = k + 1 := by unfold halfA; rw [List.length_take]; omega
  refine ⟨?_, hl⟩
  have ha : (halfA k ps).all near = true := by
    rw [List.all_eq_true] at l3 ⊢
    exact fun p hp => l3 p (List.mem_of_mem_take hp)
  unfold shape
  rw [ha, hl]
  simp; omega
theorem halfC_shape {ps : List Pt} {k : Nat} (hs : shape ps = true) (h1 : 1 ≤ k) (h2 : k + 2 ≤ ps.length) : shape (halfC k ps) = true ∧ (halfC k ps).length = 1 + (ps.length - k) := by
  obtain ⟨l1, l2, l3⟩ := shape_len hs
  have hl : (halfC k ps).length = 1 + (ps.length - k) := by unfold halfC; rw [List.length_append, List.length_take, List.length_drop]; omega
  refine ⟨?_, hl⟩
  have ha : (halfC k ps).all near = true := by
    rw [List.all_eq_true] at l3 ⊢
    intro p hp
    unfold halfC at hp
    rw [List.mem_append] at hp
    rcases hp with hp | hp
    · exact l3 p (List.mem_of_mem_take hp)
    · exact l3 p (List.mem_of_mem_drop hp)
  unfold shape
  rw [ha, hl]
  simp; omega

/-- Points further on, and the first ones. -/
theorem Pts.take {w : World} {a : Option Addr} {n m : Nat} {ps : List Pt} (h : Pts w a n ps) (hm : m ≤ n) : Pts w a m (ps.take m) := by
  obtain ⟨h1, h2, h3⟩ := h
  refine ⟨by rw [List.length_take]; omega, fun p hp => h2 p (List.mem_of_mem_take hp), fun hp => ?_⟩
  obtain ⟨b, off, e, hc⟩ := h3 (by omega)
  refine ⟨b, off, e, fun i p hi => ?_⟩
  have hl := (List.getElem?_eq_some_iff.1 hi).1
  rw [List.length_take] at hl
  rw [List.getElem?_take_of_lt (by omega)] at hi
  exact hc i p hi
theorem Pts.drop {w : World} {b off n k : Nat} {ps : List Pt} (h : Pts w (some ⟨b, off, none⟩) n ps) (hk : k ≤ n) : Pts w (some ⟨b, off + k * 2, none⟩) (n - k) (ps.drop k) := by
  obtain ⟨h1, h2, h3⟩ := h
  refine ⟨by rw [List.length_drop]; omega, fun p hp => h2 p (List.mem_of_mem_drop hp), fun hp => ?_⟩
  obtain ⟨b', off', e, hc⟩ := h3 (by omega)
  cases e
  refine ⟨_, _, rfl, fun i p hi => ?_⟩
  rw [List.getElem?_drop] at hi
  have := hc (k + i) p hi
  rw [Nat.add_mul, ← Nat.add_assoc] at this
  exact this

theorem run_append_pts (S E : TypeId) (hS : Try.prog.underlying S = some (.slice E)) (hE : (Try.prog.info? E).map (fun i => (i.zero, i.size, i.bytes)) = some (some (.agg #[.int .i64 0, .int .i64 0]), 2, 16))
    (w : World) (ty : TypeId) (base n : Nat) (v : Value) (ps qs : List Pt) (hown : w.ownsRow base E 2 v n (pcells ps)) (b off m c : Nat) (h0 : Pts w (some ⟨b, off, none⟩) m qs) (hm : m ≤ 16777216) (hn : n ≤ 16777216) (hbase : base ≤ w.heap.size) :
    ∃ aa cap w', (Builtin.append_ #[S, S] ty #[v, .slice (some ⟨b, off, none⟩) m c]).run Try.prog w = .ok (.slice aa (n + m) cap) w' ∧
      w'.ownsRow base E 2 (.slice aa (n + m) cap) (n + m) (pcells (ps ++ qs)) ∧ w.grownBy w' v.ownBlock := by
  obtain ⟨i0, hi, hz0, hz1, hz2⟩ := info_parts hE
  obtain ⟨v', w', hr, k1, k2, k4, k5⟩ := run_append_own_at (P := Try.prog) w base S ty E i0 (.agg #[.int .i64 0, .int .i64 0]) 2 16 hS hi hz0 hz1 hz2 rfl (by decide) v n _ hown ⟨b, off, none⟩ m c (pcells qs) (by rw [pcells_length, h0.1])
    (by
      intro j u hj
      have hjl : j < (pcells qs).length := (List.getElem?_eq_some_iff.1 hj).1
      rw [pcells_length, h0.1] at hjl
      obtain ⟨b', off', p, e, hp, _, c0, c1⟩ := h0.at (i := j / 2) (by omega)
      cases e
      have hpc := pcells_at hp (j % 2) (Nat.mod_lt _ (by decide))
      have ej : j / 2 * 2 + j % 2 = j := by omega
      rw [ej] at hpc
      rw [hpc] at hj
      rw [add_spot]
      rcases Nat.mod_two_eq_zero_or_one j with h | h
      · rw [h] at hj
        have hv : u = .int .i64 p.X := by simpa [pcell] using hj.symm
        rw [hv, ← c0]
        congr 2
        omega
      · rw [h] at hj
        have hv : u = .int .i64 p.Y := by simpa [pcell] using hj.symm
        rw [hv, ← c1]
        congr 2
        omega)
    (by
      intro u hu
      obtain ⟨j, hjl, rfl⟩ := List.getElem_of_mem hu
      have hj : (pcells qs)[j]? = some (pcells qs)[j] := List.getElem?_eq_getElem hjl
      rw [pcells_length, h0.1] at hjl
      obtain ⟨b', off', p, e, hp, _, c0, c1⟩ := h0.at (i := j / 2) (by omega)
      have hpc := pcells_at hp (j % 2) (Nat.mod_lt _ (by decide))
      have ej : j / 2 * 2 + j % 2 = j := by omega
      rw [ej] at hpc
      rw [hpc] at hj
      rcases Nat.mod_two_eq_zero_or_one j with h | h
      · rw [h] at hj
        have hv : (pcells qs)[j] = .int .i64 p.X := by simpa [pcell] using hj.symm
        rw [hv]; rfl
      · rw [h] at hj
        have hv : (pcells qs)[j] = .int .i64 p.Y := by simpa [pcell] using hj.symm
        rw [hv]; rfl) (by unfold maxLen; omega) (by omega) hbase
  have hv : ∃ aa cap, v' = .slice aa (n + m) cap := by
    rcases k1.2 with ⟨e, e2⟩ | ⟨g, cap, _, e, _⟩
    · exact ⟨none, 0, by rw [e, e2]⟩
    · exact ⟨_, _, e⟩
  obtain ⟨aa, cap, rfl⟩ := hv
  rw [← pcells_append] at k1
  exact ⟨aa, cap, w', hr, k1, k2⟩
end Go.Proofs.Ytboocllckolmgaa
