/- Painting twice, painting with what is there: plain. -/
import Derived.Test.YtfcpbpfemmdklaaZJ
namespace Go.Proofs.Ytfcpbpfemmdklaa
open Go.RowKit Go.Lib
set_option linter.unusedSimpArgs false
set_option linter.unusedVariables false

/-- One pixel's place. -/
def Reach (W y x : Int) (L k j : Nat) : Prop := ((0 ≤ x + (k : Int) ∧ x + (k : Int) < W) ∧ (0 ≤ y * W + x + (k : Int) ∧ y * W + x + (k : Int) < (L : Int))) ∧ (y * W + x + (k : Int)).toNat = j
theorem pone_hit {W y x : Int} {i j : Nat} {v : Int} {p : List Int} (h : Reach W y x p.length i j) : (pone W y x i v p)[j]? = some v := by
  obtain ⟨h1, h2⟩ := h
  unfold pone
  rw [if_pos h1, h2, List.getElem?_set, if_pos rfl, if_pos (by omega)]
theorem pone_miss {W y x : Int} {i j : Nat} {v : Int} {p : List Int} (h : ¬ Reach W y x p.length i j) : (pone W y x i v p)[j]? = p[j]? := by
  unfold pone
  split
  · rename_i h1
    rw [List.getElem?_set, if_neg (fun e => h ⟨h1, e⟩)]
  · rfl
theorem pone_agree {W y x : Int} {i j : Nat} {v : Int} {p q : List Int} (hl : p.length = q.length) (h : p[j]? = q[j]? ∨ Reach W y x p.length i j) : (pone W y x i v p)[j]? = (pone W y x i v q)[j]? := by
  by_cases hr : Reach W y x p.length i j
  · rw [pone_hit hr, pone_hit (by rw [← hl]; exact hr)]
  · rw [pone_miss hr, pone_miss (by rw [← hl]; exact hr)]
    rcases h with h | h
    · exact h
    · exact absurd h hr
theorem prow_agree {W y x : Int} {j : Nat} : ∀ (vs : List Int) (i : Nat) (p q : List Int), p.length = q.length → (p[j]? = q[j]? ∨ ∃ k, i ≤ k ∧ k < i + vs.length ∧ Reach W y x p.length k j) → (prow W y x i vs p)[j]? = (prow W y x i vs q)[j]?
  | [], i, p, q, hl, h => by
    rcases h with h | ⟨k, h1, h2, -⟩
    · exact h
    · simp at h2; omega
  | v :: vs, i, p, q, hl, h => by
    rw [prow, prow]
    refine prow_agree vs (i + 1) _ _ (by rw [pone_len, pone_len, hl]) ?_
    rw [pone_len]
    rcases h with h | ⟨k, h1, h2, h3⟩
    · exact .inl (pone_agree hl (.inl h))
    · by_cases hk : k = i
      · subst hk
        exact .inl (pone_agree hl (.inr h3))
      · exact .inr ⟨k, by omega, by rw [List.length_cons] at h2; omega, h3⟩
theorem prow_other {W y x : Int} {j : Nat} : ∀ (vs : List Int) (i : Nat) (p : List Int), (∀ k, i ≤ k → k < i + vs.length → ¬ Reach W y x p.length k j) → (prow W y x i vs p)[j]? = p[j]?
  | [], i, p, h => rfl
  | v :: vs, i, p, h => by
    rw [prow, prow_other vs (i + 1) _ (fun k h1 h2 => by rw [pone_len]; exact h k (by omega) (by rw [List.length_cons]; omega)), pone_miss (h i (Nat.le_refl _) (by rw [List.length_cons]; omega))]
theorem paintN_agree {W y x : Int} {wn : Nat} {pix : List Int} {j : Nat} (p q : List Int) (hl : p.length = q.length) : ∀ (r : Nat), r * wn ≤ pix.length → (p[j]? = q[j]? ∨ ∃ r', r' < r ∧ ∃ k, k < wn ∧ Reach W (y + (r' : Int)) x p.length k j) → (paintN W y x wn pix r p)[j]? = (paintN W y x wn pix r q)[j]?
  | 0, _, h => by
    rcases h with h | ⟨r', h1, -⟩
    · exact h
    · omega
  | r + 1, hp, h => by
    have hp' : r * wn + wn ≤ pix.length := by rw [← Nat.succ_mul]; exact hp
    rw [paintN, paintN]
    refine prow_agree _ 0 _ _ (by rw [paintN_len, paintN_len, hl]) ?_
    rw [paintN_len]
    rcases h with h | ⟨r', h1, k, h2, h3⟩
    · exact .inl (paintN_agree p q hl r (by omega) (.inl h))
    · by_cases hr : r' = r
      · subst hr
        exact .inr ⟨k, Nat.zero_le _, by rw [List.length_take, List.length_drop]; omega, h3⟩
      · exact .inl (paintN_agree p q hl r (by omega) (.inr ⟨r', by omega, k, h2, h3⟩))
theorem paintN_other {W y x : Int} {wn : Nat} {pix : List Int} {j : Nat} (p : List Int) : ∀ (r : Nat), (¬ ∃ r', r' < r ∧ ∃ k, k < wn ∧ Reach W (y + (r' : Int)) x p.length k j) → (paintN W y x wn pix r p)[j]? = p[j]?
  | 0, _ => rfl
  | r + 1, h => by
    rw [paintN, prow_other _ 0 _ (fun k _ h2 h3 => h ⟨r, Nat.lt_succ_self _, k, by rw [List.length_take] at h2; omega, by rw [paintN_len] at h3; exact h3⟩)]
    exact paintN_other p r (fun ⟨r', h1, h2⟩ => h ⟨r', by omega, h2⟩)
/-- Painted twice is as painted the second time alone. -/
theorem paint_twice (W y x : Int) (wn hn : Nat) (p1 p2 p : List Int) (hl : hn * wn ≤ p2.length) : paintN W y x wn p2 hn (paintN W y x wn p1 hn p) = paintN W y x wn p2 hn p := by
  refine List.ext_getElem? fun j => ?_
  refine paintN_agree _ _ (paintN_len _ _ _ _ _ _ _) hn hl ?_
  rw [paintN_len]
  by_cases h : ∃ r', r' < hn ∧ ∃ k, k < wn ∧ Reach W (y + (r' : Int)) x p.length k j
  · exact .inr h
  · exact .inl (paintN_other p hn h)
theorem prow_self {W y x : Int} : ∀ (vs : List Int) (i : Nat) (p : List Int), (∀ k v, vs[k]? = some v → ∀ j, Reach W y x p.length (i + k) j → p[j]? = some v) → prow W y x i vs p = p
  | [], i, p, h => rfl
  | v :: vs, i, p, h => by
    have e : pone W y x i v p = p := by
      refine List.ext_getElem? fun j => ?_
      by_cases hr : Reach W y x p.length i j
      · rw [pone_hit hr, h 0 v rfl j hr]
      · rw [pone_miss hr]
    rw [prow, e]
    refine prow_self vs (i + 1) p fun k u hu j hr => h (k + 1) u hu j ?_
    rw [show i + (k + 1) = i + 1 + k by omega]
    exact hr
/-- Painted with what it has it is what it was. -/
theorem paint_self (wn : Nat) (p : List Int) : ∀ r : Nat, paintN (wn : Int) 0 0 wn p r p = p
  | 0 => rfl
  | r + 1 => by
    rw [paintN, paint_self wn p r]
    refine prow_self _ 0 p fun k v hv j hr => ?_
    obtain ⟨-, h2⟩ := hr
    have hk : k < wn := by have := (List.getElem?_eq_some_iff.1 hv).1; rw [List.length_take] at this; omega
    rw [List.getElem?_take_of_lt hk, List.getElem?_drop] at hv
    have e : j = r * wn + k := by
      rw [← h2]
      have : ((0 : Int) + (r : Int)) * (wn : Int) + 0 + ((0 + k : Nat) : Int) = ((r * wn + k : Nat) : Int) := by
        rw [Nat.zero_add, Int.zero_add, Int.add_zero]
        push_cast
        rfl
      rw [this]
      rfl
    rw [e]
    exact hv
theorem pone_all {W y x : Int} {i : Nat} {v : Int} {p : List Int} (hv : pixB v = true) (hp : p.all pixB = true) : (pone W y x i v p).all pixB = true := by
  unfold pone
  split
  · rw [List.all_eq_true] at hp ⊢
    intro u hu
    rcases List.mem_or_eq_of_mem_set hu with h | rfl
    · exact hp u h
    · exact hv
  · exact hp
theorem prow_all {W y x : Int} : ∀ (vs : List Int) (i : Nat) (p : List Int), vs.all pixB = true → p.all pixB = true → (prow W y x i vs p).all pixB = true
  | [], i, p, _, h => h
  | v :: vs, i, p, hv, h => by
    rw [List.all_cons, Bool.and_eq_true] at hv
    rw [prow]
    exact prow_all vs (i + 1) _ hv.2 (pone_all hv.1 h)
theorem paintN_all {W y x : Int} {wn : Nat} {pix p : List Int} (hx : pix.all pixB = true) (hp : p.all pixB = true) : ∀ r : Nat, (paintN W y x wn pix r p).all pixB = true
  | 0 => hp
  | r + 1 => by
    rw [paintN]
    refine prow_all _ 0 _ ?_ (paintN_all hx hp r)
    rw [List.all_eq_true] at hx ⊢
    exact fun u hu => hx u (List.mem_of_mem_drop (List.mem_of_mem_take hu))
theorem paint_one (d : Dat) (hid : d.id = 1) (hk : d.kind = 0) (x y w h : Int) (pix : List Int) :
    paintP [.mk d []] 1 x y w h pix = if formP w h pix = false then .error 25 else if (shiftP x && shiftP y) = false then .error 31 else .ok [.mk (setP d (paintN d.w y x w.toNat pix h.toNat d.p)) []] := by
  have hf : fnd 1 [.mk d []] = some ⟨[], [], d, [], []⟩ := by simp [fnd, go, hid]
  unfold paintP
  rw [if_neg (by decide), hf]
  simp only [hk, if_true, List.nil_append, plugP]
theorem paint_none (x y w h : Int) (pix : List Int) : paintP [] 1 x y w h pix = .error 40 := by
  have hf : fnd 1 [] = none := by simp [fnd, go]
  unfold paintP
  rw [if_neg (by decide), hf]
end Go.Proofs.Ytfcpbpfemmdklaa
