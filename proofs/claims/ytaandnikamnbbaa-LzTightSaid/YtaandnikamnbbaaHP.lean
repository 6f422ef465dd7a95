/- Literals and one copy: what they bring; a row of tokens that grows. -/
import Derived.Test.YtaandnikamnbbaaF
namespace Go.Proofs.Ytaandnikamnbbaa
open Go.RowKit
set_option linter.unusedVariables false

theorem may_lit (y n : Nat) : may (lit y) n = true := by simp [may, lit]
theorem brings_lits (most : Int) (out xs : List Nat) (ts : List Tok) (h : ((out.length + xs.length : Nat) : Int) ≤ most) : brings most out (xs.map lit ++ ts) = brings most (out ++ xs) ts := by
  induction xs generalizing out with
  | nil => simp
  | cons x xs ih =>
    rw [List.length_cons] at h
    rw [List.map_cons, List.cons_append, brings_cons, may_lit, if_neg (by simp), if_neg (by
      have : wide (lit x) = 1 := rfl
      omega)]
    have e : brought (lit x) out = out ++ [x] := rfl
    rw [e, ih (out ++ [x]) (by rw [List.length_append, List.length_singleton]; omega), List.append_assoc]
    rfl
theorem copied_old (d k : Nat) (xs : List Nat) (i : Nat) (hi : i < xs.length) : (copied d k xs)[i]? = xs[i]? := by
  induction k with
  | zero => rfl
  | succ k ih => rw [copied, List.getElem?_append_left (by rw [copied_length]; omega), ih]
theorem copied_at (d k : Nat) (xs : List Nat) (h1 : 1 ≤ d) (h2 : d ≤ xs.length) (j : Nat) (hj : j < k) : (copied d k xs)[xs.length + j]? = xs[xs.length - d + j % d]? := by
  induction k generalizing j with
  | zero => omega
  | succ k ih =>
    have hl := copied_length d k xs
    rw [copied]
    by_cases hjk : j < k
    · rw [List.getElem?_append_left (by omega)]
      exact ih j hjk
    · obtain rfl : j = k := by omega
      rw [List.getElem?_append_right (by omega), hl, Nat.sub_self, List.getElem?_cons_zero, List.getD_eq_getElem?_getD]
      have hm := Nat.mod_lt j (show 0 < d by omega)
      have hlt : xs.length - d + j % d < xs.length := by omega
      have key : (copied d j xs)[xs.length + j - d]? = xs[xs.length - d + j % d]? := by
        by_cases hjd : j < d
        · rw [Nat.mod_eq_of_lt hjd, copied_old d j xs _ (by omega)]
          congr 1
          omega
        · have e := ih (j - d) (by omega)
          rw [show xs.length + j - d = xs.length + (j - d) by omega, e, ← Nat.mod_eq_sub_mod (by omega)]
      rw [key, List.getElem?_eq_getElem hlt]
      rfl
theorem copied_prefix (d k : Nat) (xs : List Nat) : ∃ r, copied d k xs = xs ++ r ∧ r.length = k := by
  induction k with
  | zero => exact ⟨[], by simp [copied], rfl⟩
  | succ k ih =>
    obtain ⟨r, e, hl⟩ := ih
    exact ⟨r ++ [(copied d k xs).getD ((copied d k xs).length - d) 0], by rw [← List.append_assoc, ← e]; rfl, by rw [List.length_append, hl]; rfl⟩
theorem copied_take (d k : Nat) (xs ys : List Nat) : (copied d k xs ++ ys).take xs.length = xs := by
  obtain ⟨r, e, hl⟩ := copied_prefix d k xs
  rw [e, List.append_assoc, List.take_left']
  rfl
theorem copied_drop (d k : Nat) (xs ys : List Nat) : (copied d k xs ++ ys).drop (xs.length + k) = ys := by
  obtain ⟨r, e, hl⟩ := copied_prefix d k xs
  rw [e, List.drop_left']
  rw [List.length_append, hl]
/-- The law's tokens. -/
def joined (xs : List Nat) (k : Nat) (D : Int) (ys : List Nat) : List Tok := xs.map lit ++ ⟨k, D, 0⟩ :: ys.map lit
theorem joined_far (xs : List Nat) (k : Nat) (D : Int) (ys : List Nat) (hx : xs.length ≤ 1000) (hk : 3 ≤ k) (hd : (xs.length : Int) < D) : brings 5000 [] (joined xs k D ys) = (22, []) := by
  unfold joined
  rw [brings_lits _ _ _ _ (by simp; omega), List.nil_append, brings_cons, if_pos (by simp [may]; omega)]
theorem joined_near (xs : List Nat) (k d : Nat) (ys : List Nat) (hx : xs.length ≤ 1000) (hy : ys.length ≤ 1000) (hk : 3 ≤ k) (hk2 : k ≤ 258) (hd : 1 ≤ d) (hd2 : d ≤ xs.length) : brings 5000 [] (joined xs k d ys) = (0, copied d k xs ++ ys) := by
  unfold joined
  have hw : wide ⟨(k : Int), (d : Int), 0⟩ = k := by unfold wide; rw [if_neg (by simp; omega)]; rfl
  have hb : brought ⟨(k : Int), (d : Int), 0⟩ xs = copied d k xs := by unfold brought; rw [if_neg (by simp; omega)]; rfl
  rw [brings_lits _ _ _ _ (by simp; omega), List.nil_append, brings_cons, if_neg (by simp [may]; omega), if_neg (by rw [hw]; omega), hb]
  have e := brings_lits 5000 (copied d k xs) ys [] (by rw [copied_length]; omega)
  rw [List.append_nil] at e
  rw [e, brings_nil]
theorem joined_fits (xs : List Nat) (k : Nat) (D : Int) (ys : List Nat) (hx : ∀ x ∈ xs, x < 256) (hy : ∀ y ∈ ys, y < 256) (hk : k ≤ 258) (hD : -9223372036854775808 ≤ D ∧ D ≤ 9223372036854775807) : ∀ t ∈ joined xs k D ys, Fits t := by
  have hl : ∀ zs : List Nat, (∀ z ∈ zs, z < 256) → ∀ t ∈ zs.map lit, Fits t := by
    intro zs hz t ht
    obtain ⟨z, h, rfl⟩ := List.mem_map.1 ht
    exact ⟨by simp [lit], by simp [lit], hz z h⟩
  intro t ht
  unfold joined at ht
  rw [List.mem_append, List.mem_cons] at ht
  rcases ht with ht | rfl | ht
  · exact hl xs hx t ht
  · exact ⟨by simp only; omega, hD, by simp⟩
  · exact hl ys hy t ht

/-- A row of tokens that the call owns, beside which the old memory is as it was. -/
structure GrowT (w : World) (v : Value) (ts : List Tok) (w' : World) : Prop where
  own : w'.ownsRow w.heap.size 27 3 v ts.length (tokvs ts)
  old : Below w.heap.size w w'
theorem GrowT.nil (w : World) : GrowT w (.slice none 0 0) [] w := ⟨World.ownsRow_nil _ _ _ _, Below.refl _ _⟩
theorem GrowT.later {w w1 w2 : World} {v : Value} {ts : List Tok} (h : GrowT w v ts w1) (hb : Below w1.heap.size w1 w2) : GrowT w v ts w2 :=
  ⟨own_kept2 h.own (fun g e => hb.block g (own_lt2 h.own g e).2), below_more h.old hb (Nat.le_refl _)⟩
theorem GrowT.push {w w1 W w2 : World} {v v' : Value} {ts : List Tok} {t : Tok} (h : GrowT w v ts w1) (hW : Below w1.heap.size w1 W)
    (hown : w2.ownsRow w.heap.size 27 3 v' (ts.length + 1) (tokvs (ts ++ [t]))) (hg : W.grownBy w2 v.ownBlock) : GrowT w v' (ts ++ [t]) w2 :=
  ⟨by rw [List.length_append]; exact hown, grown_below (Nat.le_refl _) (below_more h.old hW (Nat.le_refl _)) hg (fun k e => (own_lt2 h.own k e).1)⟩
theorem GrowT.toks {w w' : World} {aa : Option Addr} {c : Nat} {ts : List Tok} (h : GrowT w (.slice aa ts.length c) ts w') (hf : ∀ t ∈ ts, Fits t) : Toks w' aa ts.length ts ∧ ∀ x, aa = some x → w.heap.size ≤ x.block := by
  obtain ⟨h1, _, h3⟩ := toks_own h.own hf
  exact ⟨h1, h3⟩
theorem lits_more {xs : List Nat} {i x : Nat} (h : xs[i]? = some x) : (xs.take (i + 1)).map lit = (xs.take i).map lit ++ [lit x] := by
  rw [take_more h, List.map_append]; rfl
end Go.Proofs.Ytaandnikamnbbaa
