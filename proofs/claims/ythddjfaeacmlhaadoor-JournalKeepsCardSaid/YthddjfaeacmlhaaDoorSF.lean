/- The document's examples; what a law's walk ends with; arguments that came in. -/
import Derived.Test.YthddjfaeacmlhaaDoorSE
import Derived.Lib.SlBytesConst
namespace Go.Proofs.YthddjfaeacmlhaaDoor
open Go.RowKit
set_option linter.unusedVariables false

/-- A law's end: true, and the old memory as it was. -/
def Yes (w : World) (e : Ending) (w' : World) : Prop := e = .returned (.bool true) ∧ Below w.heap.size w w'
theorem Fours.below {w w' : World} (h : Fours w) (hb : Below w.heap.size w w') : Fours w' := h.later hb.block
theorem Bytes.below {w w' : World} {a : Option Addr} {n : Nat} {ys : List Nat} (h : Bytes w a n ys) (hb : Below w.heap.size w w') : Bytes w' a n ys := h.later hb.block
theorem below_more {B : Nat} {w w1 w2 : World} (h : Below B w w1) (h2 : Below w1.heap.size w1 w2) (hB : B ≤ w.heap.size) : Below B w w2 :=
  h.trans ⟨h2.os, h2.tape, h2.output, h2.size, fun k hk => h2.block k (Nat.lt_of_lt_of_le hk (Nat.le_trans hB h.size))⟩

/-- A text laid by the call, and a list of it alone. -/
theorem lit_bytes (w : World) (cs : Array Value) (X : List Nat) (fr : Nat × Nat) (hcs : cs.toList = bys X) (hX : ∀ x ∈ X, x < 256) : Bytes (w.alloc (.cells cs 5 fr)) (some ⟨w.heap.size, 0, none⟩) X.length X := by
  refine ⟨rfl, hX, fun _ => ⟨_, _, rfl, fun j y hj => ?_⟩⟩
  have h2 : cs[j]? = some (.int .u8 (y : Int)) := by
    rw [← Array.getElem?_toList, hcs]
    unfold bys
    rw [List.getElem?_map, hj]
    rfl
  rw [World.cell?_alloc_mark, ← h2, Nat.zero_add]
theorem one_text (w : World) (a : Option Addr) (n c : Nat) (X : List Nat) (h : Bytes w a n X) (hc : n ≤ c ∧ (a = none → n = 0 ∧ c = 0)) : Texts (w.alloc (.cells #[.slice a n c] 22)) (some ⟨w.heap.size, 0, none⟩) 1 [X] := by
  refine ⟨rfl, fun i ys hi => ?_⟩
  cases i with
  | zero =>
    simp only [List.getElem?_cons_zero, Option.some.injEq] at hi
    subst hi
    exact ⟨_, _, a, n, c, rfl, by simp, hc, h.later (fun k hk => Below.heap_alloc _ _ _ hk)⟩
  | succ i => simp at hi
theorem no_text (w : World) : Texts w none 0 [] := ⟨rfl, fun i ys hi => by simp at hi⟩

def ex1 : List Nat := [49, 50, 51, 52, 53, 54, 55, 56, 57]
def ex2 : List Nat := [87, 105, 107, 105, 112, 101, 100, 105, 97]
theorem ex1_crc : Sums.crc [ex1].flatten = 3421780262 := by decide +kernel
theorem ex2_adler : Sums.adler [ex2].flatten = 300286872 := by decide +kernel
theorem ex3_crc : Sums.crc ([] : List (List Nat)).flatten = 0 := by decide +kernel
theorem ex4_adler : Sums.adler ([] : List (List Nat)).flatten = 1 := by decide +kernel

theorem const_at {w w1 : World} {C : Array Value} {g : Nat} (hw : w1 = w.alloc (.cells C 5)) (hg : g = w.heap.size) :
    (convert 22 22 (.slice (some ⟨g, 0, none⟩) 9 9)).run Tryd.prog w1 = .ok (.slice (some ⟨g, 0, none⟩) 9 9) (w.alloc (.cells C 5 (C.size, C.size + 1))) := by
  subst hg hw
  exact Lib.run_convert_bytes_const (P := Tryd.prog) w 22 5 C 9 9 Tryd.underlying22 Tryd.underlying5

def cs1 : Array Value := #[.int .u8 49, .int .u8 50, .int .u8 51, .int .u8 52, .int .u8 53, .int .u8 54, .int .u8 55, .int .u8 56, .int .u8 57]
def cs2 : Array Value := #[.int .u8 87, .int .u8 105, .int .u8 107, .int .u8 105, .int .u8 112, .int .u8 101, .int .u8 100, .int .u8 105, .int .u8 97]
/-- Memory behind a literal and the list of it. -/
def lit (cs : Array Value) (w : World) : World := (w.alloc (.cells cs 5 (9, 10))).alloc (.cells #[.slice (some ⟨w.heap.size, 0, none⟩) 9 9] 22)
theorem lit_below (cs : Array Value) (w : World) : Below w.heap.size w (lit cs w) := ((Below.refl _ _).alloc (Nat.le_refl _) _).alloc (by simp) _
theorem lit_size (cs : Array Value) (w : World) : (lit cs w).heap.size = w.heap.size + 2 := by simp [lit]

theorem lit_crc (w : World) (hF : Fours w) : Calls Tryd.prog 29 #[.slice (some ⟨w.heap.size + 1, 0, none⟩) 1 1] (lit cs1 w) fun e w' => e = .returned (.int .i64 3421780262) ∧ w' = lit cs1 w := by
  have b := lit_bytes w cs1 ex1 (9, 10) rfl (by decide)
  have t := one_text _ _ _ 9 ex1 b ⟨by decide, fun h => by cases h⟩
  have C := crc_any (lit cs1 w) (some ⟨(w.alloc (.cells cs1 5 (9, 10))).heap.size, 0, none⟩) 1 1 [ex1] (by omega) (by intro ys hys; simp only [List.mem_singleton] at hys; subst hys; decide) t (hF.below (lit_below cs1 w))
  rw [ex1_crc, show (w.alloc (.cells cs1 5 (9, 10))).heap.size = w.heap.size + 1 by simp] at C
  exact C
end Go.Proofs.YthddjfaeacmlhaaDoor
