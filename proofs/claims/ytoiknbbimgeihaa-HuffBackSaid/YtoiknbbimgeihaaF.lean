/- The document's least: the matrices in memory, and the walk of Least. -/
import Derived.Test.YtoiknbbimgeihaaE
import Derived.StillTailTactics
namespace Go.Proofs.Ytoiknbbimgeihaa
open Go.RowKit
set_option linter.unusedVariables false

theorem dot_le (cs es : List Nat) (r : Nat) (h : ∀ e ∈ es, e ≤ r) : Huff.dot cs es ≤ r * cs.sum := by
  induction cs generalizing es with
  | nil => rw [Huff.dot_nil]; omega
  | cons c cs ih =>
    cases es with
    | nil => simp [Huff.dot]
    | cons e es =>
      rw [Huff.dot_cons, List.sum_cons, Nat.mul_add]
      have h1 := ih es (fun x hx => h x (List.mem_cons_of_mem _ hx))
      have h2 : c * e ≤ r * c := by rw [Nat.mul_comm]; exact Nat.mul_le_mul_right _ (h e (List.mem_cons_self ..))
      omega
theorem enc_bound (r : Nat) (cs : List Nat) (p : Nat) : -1 ≤ enc (Huff.least r cs p) ∧ enc (Huff.least r cs p) ≤ (r * cs.sum : Nat) := by
  cases h : Huff.least r cs p with
  | none => simp only [enc]; omega
  | some v =>
    obtain ⟨es, hf, hd⟩ := Huff.least_fits r cs p v h
    have := dot_le cs es r hf.le
    simp only [enc]
    omega
theorem drop_sum_le (cs : List Nat) (i : Nat) : (cs.drop i).sum ≤ cs.sum := by
  induction cs generalizing i with
  | nil => simp
  | cons c cs ih =>
    cases i with
    | zero => simp
    | succ i => rw [List.drop_succ_cons, List.sum_cons]; have := ih i; omega

/-- A matrix of the call's own: rows from lo on are filled; all its blocks lie below B. -/
structure Mat (w : World) (g n lo B : Nat) (F : Nat → Nat → Int) : Prop where
  lt : g < B
  cells : ∃ cur : Array Value, w.heap[g]? = some (.cells cur 22 (0, 0)) ∧ n + 1 ≤ cur.size ∧ ∀ i, lo ≤ i → i ≤ n → ∃ b, cur[i]? = some (.slice (some ⟨b, 0, none⟩) (n + 1) (n + 1)) ∧ b ≠ g ∧ b < B ∧ Row w b (n + 1) (F i)
theorem Mat.later {w w' : World} {g n lo B : Nat} {F : Nat → Nat → Int} (h : Mat w g n lo B F) (hk : ∀ k, k < B → w'.heap[k]? = w.heap[k]?) : Mat w' g n lo B F := by
  obtain ⟨hlt, cur, h1, h2, h3⟩ := h
  refine ⟨hlt, cur, (hk g hlt).trans h1, h2, fun i hi hn => ?_⟩
  obtain ⟨b, q1, q2, q3, q4⟩ := h3 i hi hn
  exact ⟨b, q1, q2, q3, q4.later (hk b q3)⟩
theorem Mat.grow {w : World} {g n lo B B' : Nat} {F : Nat → Nat → Int} (h : Mat w g n lo B F) (hB : B ≤ B') : Mat w g n lo B' F := by
  obtain ⟨hlt, cur, h1, h2, h3⟩ := h
  refine ⟨by omega, cur, h1, h2, fun i hi hn => ?_⟩
  obtain ⟨b, q1, q2, q3, q4⟩ := h3 i hi hn
  exact ⟨b, q1, q2, by omega, q4⟩
theorem Mat.at2 {w : World} {g n lo B i p : Nat} {F : Nat → Nat → Int} (h : Mat w g n lo B F) (h1 : lo ≤ i) (h2 : i ≤ n) (hp : p ≤ n) : At2 w (some ⟨g, 0, none⟩) (n + 1) (n + 1) i p (F i p) := by
  obtain ⟨hlt, cur, k1, k2, k3⟩ := h
  obtain ⟨b, q1, q2, q3, q4⟩ := k3 i h1 h2
  exact ⟨g, 0, some ⟨b, 0, none⟩, b, 0, n + 1, rfl, by omega, by simp [World.cell?, k1, q1], by omega, rfl, by have := (q4.cell (show p < n + 1 by omega)).1; simpa using this⟩
theorem Mat.spot {w : World} {g n lo B i : Nat} {F : Nat → Nat → Int} (h : Mat w g n lo B F) (h2 : i ≤ n) : ∃ v, w.cell? ⟨g, i, none⟩ = some v ∧ w.frozen? ⟨g, i, none⟩ = false := by
  obtain ⟨hlt, cur, k1, k2, k3⟩ := h
  exact ⟨cur[i]'(by omega), by simp [World.cell?, k1, show i < cur.size by omega], by simp [World.frozen?, k1]⟩
/-- One more row is hung in. -/
theorem Mat.hang {w : World} {g n lo B b : Nat} {F : Nat → Nat → Int} (h : Mat w g n (lo + 1) B F) (hn : lo ≤ n) (hb : B ≤ b) (hr : Row w b (n + 1) (F lo)) :
    Mat (w.setCell ⟨g, lo, none⟩ (.slice (some ⟨b, 0, none⟩) (n + 1) (n + 1))) g n lo (b + 1) F := by
  obtain ⟨hlt, cur, k1, k2, k3⟩ := h
  have other : ∀ k, k ≠ g → (w.setCell ⟨g, lo, none⟩ (.slice (some ⟨b, 0, none⟩) (n + 1) (n + 1))).heap[k]? = w.heap[k]? := fun k hk => Below.heap_setCell _ _ _ _ (by simpa using hk)
  refine ⟨by omega, cur.setIfInBounds lo (.slice (some ⟨b, 0, none⟩) (n + 1) (n + 1)), ?_, by simpa using k2, fun i hi hin => ?_⟩
  · simp only [World.setCell, Array.getElem?_modify, k1]
    simp
  · by_cases e : lo = i
    · subst e
      exact ⟨b, by rw [Array.getElem?_setIfInBounds_self_of_lt (by omega)], by omega, by omega, hr.later (other b (by omega))⟩
    · obtain ⟨b', q1, q2, q3, q4⟩ := k3 i (by omega) hin
      exact ⟨b', by rw [Array.getElem?_setIfInBounds_ne e]; exact q1, q2, by omega, q4.later (other b' q2)⟩
theorem made_mat (w : World) (n : Nat) (z : Value) (F : Nat → Nat → Int) : Mat (w.alloc (.cells (madeCells #[z] (n + 1)) 22)) w.heap.size n (n + 1) (w.heap.size + 1) F :=
  ⟨by omega, _, heap_alloc_new _ _, by rw [size_madeCells]; exact Nat.le_refl _, fun i hi hn => by omega⟩
theorem info22 : (Try.prog.info? 22).map (fun i => (i.zero, i.size, i.bytes)) = some (some (.slice none 0 0), 1, 24) := by kernel_rfl

/-- The sums of what stands from each place on. -/
def tails (cs : List Nat) (lo j : Nat) : Int := if lo ≤ j then ((cs.drop j).sum : Nat) else 0
theorem drop_cons {cs : List Nat} {i c : Nat} (h : cs[i]? = some c) : cs.drop i = c :: cs.drop (i + 1) := by
  obtain ⟨hl, e⟩ := List.getElem?_eq_some_iff.1 h
  rw [List.drop_eq_getElem_cons hl, e]

def ints (cs : List Nat) : List Int := cs.map (fun c : Nat => (c : Int))
theorem ints_get {cs : List Nat} {i : Nat} {z : Int} (h : (ints cs)[i]? = some z) : ∃ c, cs[i]? = some c ∧ z = (c : Int) := by
  unfold ints at h
  rw [List.getElem?_map] at h
  obtain ⟨c, h1, h2⟩ := Option.map_eq_some_iff.1 h
  exact ⟨c, h1, h2.symm⟩

theorem least_none_any (w : World) (c : Nat) (a : Option Addr) (most : Int) : Calls Try.prog 13 #[.slice a 0 c, .int .i64 most] w fun e w' => e = .returned (.int .i64 0) ∧ Below w.heap.size w w' := by
  go_enter Try.func13, Try.ntmps13
  go_wp2
  go_ret
  exact ⟨rfl, Below.refl _ _⟩
theorem least_one_any (w : World) (c : Nat) (a : Option Addr) (z : Int) (h : Ints w a 1 [z]) (most : Int) : Calls Try.prog 13 #[.slice a 1 c, .int .i64 most] w fun e w' => e = .returned (.int .i64 z) ∧ Below w.heap.size w w' := by
  obtain ⟨b, o, z', rfl, hz, _, hc⟩ := h.at (show 0 < 1 by omega)
  simp only [List.getElem?_cons_zero, Option.some.injEq] at hz
  subst hz
  rw [Nat.add_zero] at hc
  clear h
  go_enter Try.func13, Try.ntmps13
  go_wp2
  go_ret
  exact ⟨rfl, Below.refl _ _⟩
end Go.Proofs.Ytoiknbbimgeihaa
