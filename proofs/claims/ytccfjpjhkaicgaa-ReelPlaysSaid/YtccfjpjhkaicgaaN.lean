/- What is left of a crash: the plain facts. -/
import Derived.Test.YtccfjpjhkaicgaaM
namespace Go.Proofs.Ytccfjpjhkaicgaa
open Go.RowKit

theorem same_any (w : World) {a b : Option Addr} {n m : Nat} {ys zs : List Int} (ha : Src w a n ys) (hb : Src w b m zs) (e : ys = zs) (c d : Nat) :
    Calls Try.prog 17 #[.slice a n c, .slice b m d] w fun e w' => e = .returned (.bool true) ∧ w' = w := by
  subst e
  have k1 := conv_src ha c
  have k2 := conv_src hb d
  clear ha hb
  go_enter Try.func17, Try.ntmps17
  go_wp2
  go_ret
  exact ⟨by simp, rfl⟩

theorem mix_cut (xs gs : List Int) (p q i a b : Nat) (h : a + b ≤ p) : ((mix xs gs p q i).drop a).take b = (xs.drop a).take b := by
  apply List.ext_getElem?
  intro j
  rw [List.getElem?_take, List.getElem?_take, List.getElem?_drop, List.getElem?_drop]
  split
  · exact mix_ahead _ _ _ _ _ _ (Or.inl (by omega))
  · rfl

theorem src_zero (w : World) (a : Option Addr) : Src w a 0 [] := by
  refine ⟨rfl, by simp, ?_⟩
  cases a with
  | none => exact Or.inl ⟨rfl, rfl⟩
  | some ad => exact Or.inr ⟨ad, rfl, by simp⟩

/-- Any part of bytes that may be read. -/
theorem src_part {w : World} {b off n : Nat} {ys : List Int} (h : Src w (some ⟨b, off, none⟩) n ys) (a k : Nat) (hk : a + k ≤ n) : Src w (some ⟨b, off + a, none⟩) k ((ys.drop a).take k) := by
  obtain ⟨h1, h2, h3⟩ := h
  refine ⟨by rw [List.length_take, List.length_drop]; omega, fun y hy => h2 y (List.mem_of_mem_drop (List.mem_of_mem_take hy)), ?_⟩
  rcases h3 with ⟨e, _⟩ | ⟨ad, e, h3⟩
  · cases e
  · cases e
    refine Or.inr ⟨_, rfl, fun j u hj => ?_⟩
    rw [List.getElem?_map, List.getElem?_take, List.getElem?_drop] at hj
    split at hj
    · have k := h3 (a + j) u (by rw [List.getElem?_map]; exact hj)
      have e1 : ((⟨b, off, none⟩ : Addr).add (a + j)) = ⟨b, off + (a + j), none⟩ := by
        unfold Addr.add
        split
        · rename_i h; rw [h]; rfl
        · rfl
      have e2 : ((⟨b, off + a, none⟩ : Addr).add j) = ⟨b, off + a + j, none⟩ := by
        unfold Addr.add
        split
        · rename_i h; rw [h]; rfl
        · rfl
      rw [e1] at k
      rw [e2, Nat.add_assoc]
      exact k
    · cases hj
end Go.Proofs.Ytccfjpjhkaicgaa
