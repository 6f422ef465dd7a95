/- The walk of JournalBack. -/
import Derived.Test.YthddjfaeacmlhaaDoorJI
namespace Go.Proofs.YthddjfaeacmlhaaDoor
open Go.RowKit Jr
set_option linter.unusedVariables false

theorem recs_short {ls : List (List Nat)} {K : Nat} (h : ∀ p ∈ ls, p.length ≤ K) : (recs ls).length ≤ ls.length * (K + 8) := by
  induction ls with
  | nil => simp [recs]
  | cons p ls ih =>
    rw [recs_cons, List.length_append, recd_length, List.length_cons, Nat.add_mul]
    have h1 := h p (by simp)
    have h2 := ih (fun q hq => h q (by simp [hq]))
    omega
theorem take_snoc {α : Type} {ls : List α} {i : Nat} {p : α} (h : ls[i]? = some p) : ls.take (i + 1) = ls.take i ++ [p] := by
  rw [List.take_add_one, h]; rfl
/-- Records, one behind the other, in a row of the call's own. -/
structure Rows (w : World) (ls : List (List Nat)) (K i : Nat) (aa : Option Addr) (T c : Nat) (wr : World) : Prop where
  le : i ≤ ls.length
  len : T = (recs (ls.take i)).length
  own : wr.ownsRow w.heap.size 5 1 (.slice aa T c) T (bys (recs (ls.take i)))
  fit : ∀ p ∈ ls.take i, p.length ≤ K ∧ Byte p
  below : Below w.heap.size w wr
theorem Rows.start {w wr : World} (ls : List (List Nat)) (K : Nat) (hb : Below w.heap.size w wr) : Rows w ls K 0 none 0 0 wr :=
  ⟨Nat.zero_le _, rfl, World.ownsRow_nil _ _ _ _, fun p hp => by simp at hp, hb⟩
theorem Rows.short {w wr : World} {ls : List (List Nat)} {K i T c : Nat} {aa : Option Addr} (h : Rows w ls K i aa T c wr) : T ≤ i * (K + 8) := by
  have k := recs_short (fun p hp => (h.fit p hp).1)
  rw [List.length_take, Nat.min_eq_left h.le] at k
  rw [h.len]
  exact k
theorem Rows.step {w wr w2 w3 : World} {ls : List (List Nat)} {K i T c : Nat} {aa : Option Addr} (h : Rows w ls K i aa T c wr) {p : List Nat} (hp : ls[i]? = some p) (hK : p.length ≤ K) (hby : Byte p) (hb : Below wr.heap.size wr w2)
    {aa' : Option Addr} {cap : Nat} (ho : w3.ownsRow w.heap.size 5 1 (.slice aa' (T + (p.length + 8)) cap) (T + (p.length + 8)) (bys (recs (ls.take i) ++ recd p))) (hg : w2.grownBy w3 (Value.slice aa T c).ownBlock) :
    Rows w ls K (i + 1) aa' (T + (p.length + 8)) cap w3 := by
  have hl := (List.getElem?_eq_some_iff.1 hp).1
  refine ⟨hl, ?_, ?_, ?_, ?_⟩
  · rw [take_snoc hp, recs_snoc, List.length_append, recd_length, h.len]
  · rw [take_snoc hp, recs_snoc]; exact ho
  · intro q hq
    rw [take_snoc hp] at hq
    rcases List.mem_append.1 hq with hq | hq
    · exact h.fit q hq
    · simp only [List.mem_singleton] at hq; subst hq; exact ⟨hK, hby⟩
  · exact grown_below (Nat.le_refl _) (below_more h.below hb (Nat.le_refl _)) hg (fun k e => (h.own.lt k e).1)
theorem Rows.kept {w wr w2 : World} {ls : List (List Nat)} {K i T c : Nat} {aa : Option Addr} (h : Rows w ls K i aa T c wr) (hb : Below wr.heap.size wr w2) : w2.ownsRow w.heap.size 5 1 (.slice aa T c) T (bys (recs (ls.take i))) :=
  own_kept h.own (fun k e => hb.block k (h.own.lt k e).2)
theorem fit_of {ls : List (List Nat)} {K : Nat} (hK : K ≤ 8388608) (h : ∀ p ∈ ls, p.length ≤ K ∧ Byte p) : ∀ p ∈ ls, Fit p := fun p hp => ⟨by have := (h p hp).1; omega, (h p hp).2⟩

theorem last_split {α : Type} {ls : List α} {n : Nat} {p : α} (h : ls[n]? = some p) (hn : ls.length = n + 1) : ls = ls.take n ++ [p] := by
  have e := take_snoc h
  rw [List.take_of_length_le (by omega)] at e
  exact e
/-- The records, the last of them cut off. -/
theorem cut_last {ls : List (List Nat)} {n k : Nat} {p : List Nat} (hf : ∀ q ∈ ls, Fit q) (h : ls[n]? = some p) (hn : ls.length = n + 1) (hk1 : 1 ≤ k) (hk2 : k ≤ p.length + 8) :
    scan ((recs ls).take ((recs ls).length - k)) = (ls.take n, (recs ls).length - 8 - p.length) := by
  have hs := last_split h hn
  have hf1 : ∀ q ∈ ls.take n, Fit q := fun q hq => hf q (List.mem_of_mem_take hq)
  have hp : Fit p := hf p (List.mem_of_getElem? h)
  have e1 : recs ls = recs (ls.take n) ++ recd p := by
    have := congrArg recs hs
    rwa [recs_snoc] at this
  have el : (recs ls).length = (recs (ls.take n)).length + (p.length + 8) := by rw [e1, List.length_append, recd_length]
  have e2 : (recs ls).take ((recs ls).length - k) = recs (ls.take n) ++ (recd p).take (p.length + 8 - k) := by
    rw [el, e1, List.take_append, List.take_of_length_le (by omega)]
    congr 2
    omega
  rw [e2, scan_less hf1 hp (by rw [recd_length]; omega), el]
  congr 1
  omega
end Go.Proofs.YthddjfaeacmlhaaDoor
