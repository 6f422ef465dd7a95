/- What a writer tells is memory of its own: the walk of the law. -/
import Derived.Test.YteeapkbmlhlhjaaI
import Derived.Laws.BytesArg
import Derived.Lib.Bytes
namespace Go.Proofs.Yteeapkbmlhlhjaa
open Go.RowKit

/-- The row behind a list of numbers, Fill or not left out of sight. -/
def puts (high : Bool) (xs : List Num) (L : List Bool) : Nat → List Bool
  | 0 => L
  | i + 1 => match xs[i]? with
    | some x => put high (puts high xs L i) x.V x.N
    | none => puts high xs L i
theorem puts_length (high : Bool) (xs : List Num) (L : List Bool) (i : Nat) : (puts high xs L i).length ≤ L.length + 24 * i := by
  induction i with
  | zero => simp [puts]
  | succ i ih =>
    simp only [puts]
    cases h : xs[i]? with
    | none => simp only; omega
    | some x => have := put_length high (puts high xs L i) x.V x.N; simp only; omega
theorem puts_succ {high : Bool} {xs : List Num} {L : List Bool} {i : Nat} {x : Num} (h : xs[i]? = some x) : puts high xs L (i + 1) = put high (puts high xs L i) x.V x.N := by simp [puts, h]

/-- Bytes, whatever they are, in block g. -/
def Bag (w : World) (g n : Nat) : Prop := ∃ cur : Array Value, w.heap[g]? = some (.cells cur 5 (0, 0)) ∧ n ≤ cur.size ∧ ∀ j, j < n → ∃ x : Int, cur[j]? = some (.int .u8 x)
theorem Bag.cell {w : World} {g n j : Nat} (h : Bag w g n) (hj : j < n) : ∃ x : Int, w.cell? ⟨g, j, none⟩ = some (.int .u8 x) ∧ w.frozen? ⟨g, j, none⟩ = false := by
  obtain ⟨cur, h1, h2, h3⟩ := h
  obtain ⟨x, hx⟩ := h3 j hj
  exact ⟨x, by simp [World.cell?, h1, hx], block_free h1 j⟩
theorem Bag.set {w : World} {g n : Nat} (h : Bag w g n) (i : Nat) (x : Int) : Bag (w.setCell ⟨g, i, none⟩ (.int .u8 x)) g n := by
  obtain ⟨cur, h1, h2, h3⟩ := h
  refine ⟨_, block_set h1 _, by simpa using h2, fun j hj => ?_⟩
  obtain ⟨y, hy⟩ := h3 j hj
  by_cases e : i = j
  · subst e
    exact ⟨x, by rw [Array.getElem?_setIfInBounds_self_of_lt (by omega)]⟩
  · exact ⟨y, by rw [Array.getElem?_setIfInBounds_ne e]; exact hy⟩
theorem bag_of_told {w : World} {B n c : Nat} {aa : Option Addr} {ys : List Int} (h : w.ownsRow B 5 1 (.slice aa n c) n (ys.map (Value.int .u8))) (h0 : 0 < n) : ∃ g, aa = some ⟨g, 0, none⟩ ∧ B ≤ g ∧ n ≤ c ∧ Bag w g n := by
  obtain ⟨hl, h2⟩ := h
  rcases h2 with ⟨_, e2⟩ | ⟨g, cap, cur, e, hB, hh, p1, p2, p3, p4⟩
  · omega
  · cases e
    refine ⟨g, rfl, hB, p1, cur, hh, by omega, fun j hj => ?_⟩
    have hj2 : (ys.map (Value.int .u8))[j]? = (cur.toList.take (n * 1))[j]? := by rw [p4]
    rw [List.getElem?_take_of_lt (by omega), List.getElem?_map] at hj2
    have hj3 : j < ys.length := by simp at hl; omega
    rw [List.getElem?_eq_getElem hj3] at hj2
    exact ⟨_, by simpa using hj2.symm⟩

/-- A told row, read as a text. -/
theorem conv_told {w : World} {B n c : Nat} {aa : Option Addr} {ys : List Int} (h : w.ownsRow B 5 1 (.slice aa n c) n (ys.map (Value.int .u8))) : (convert 33 9 (.slice aa n c)).run Try.prog w = .ok (.string (strOfNums ys)) w := by
  have hn : ys.length = n := by have := h.1; simpa using this
  rcases h.2 with ⟨e, e2⟩ | ⟨g, cap, cur, e, hB, hh, p1, p2, p3, p4⟩
  · cases e
    have : ys = [] := List.eq_nil_of_length_eq_zero (by omega)
    subst this
    exact run_convert_bytes_nil w 33 5 Try.underlying33 Try.underlying5 0 0 9 Try.underlying9
  · cases e
    refine run_convert_bytes_arg w 33 5 Try.underlying33 Try.underlying5 g 0 n c ys hn (fun i hi => ?_) 9 Try.underlying9
    have hi3 : i < ys.length := by omega
    have k := h.cells (g := g) rfl i (.int .u8 (ys[i]'hi3)) (by rw [List.getElem?_map, List.getElem?_eq_getElem hi3]; rfl)
    have e3 : ((⟨g, 0, none⟩ : Addr).add i) = ⟨g, 0 + i, none⟩ := by
      unfold Addr.add
      split
      · rename_i h; subst h; rfl
      · rfl
    rw [e3] at k
    rw [k, List.getD_eq_getElem?_getD, List.getElem?_eq_getElem hi3]
    rfl
end Go.Proofs.Yteeapkbmlhlhjaa
