/- Tokens in memory; what they bring, as plain data. -/
import Derived.Test.YtaandnikamnbbaaA
namespace Go.Proofs.Ytaandnikamnbbaa
open Go.RowKit
set_option linter.unusedVariables false

/-- A token. -/
structure Tok where
  L : Int
  D : Int
  X : Nat

/-- One of them in memory. -/
def OneTok (w : World) (b o : Nat) (t : Tok) : Prop :=
  w.cell? ⟨b, o, none⟩ = some (.int .i64 t.L) ∧ w.cell? ⟨b, o + 1, none⟩ = some (.int .i64 t.D) ∧ w.cell? ⟨b, o + 2, none⟩ = some (.int .u8 (t.X : Nat))
/-- Numbers that a token may bear. -/
def Fits (t : Tok) : Prop := (-9223372036854775808 ≤ t.L ∧ t.L ≤ 9223372036854775807) ∧ (-9223372036854775808 ≤ t.D ∧ t.D ≤ 9223372036854775807) ∧ t.X < 256
/-- All of them in memory. -/
def Toks (w : World) (a : Option Addr) (n : Nat) (ts : List Tok) : Prop :=
  ts.length = n ∧ (∀ t ∈ ts, Fits t) ∧ (0 < n → ∃ b off, a = some ⟨b, off, none⟩ ∧ ∀ (i : Nat) (t : Tok), ts[i]? = some t → OneTok w b (off + i * 3) t)
theorem OneTok.up {w w' : World} {b o : Nat} {t : Tok} (h : OneTok w b o t) (hk : b < w.heap.size → w'.heap[b]? = w.heap[b]?) : OneTok w' b o t := by
  obtain ⟨c0, c1, c2⟩ := h
  have hb := hk (World.block_lt_of_cell? w _ c0)
  exact ⟨(World.cell?_of_block (w := w) hb).trans c0, (World.cell?_of_block (w := w) hb).trans c1, (World.cell?_of_block (w := w) hb).trans c2⟩
theorem Toks.later {w w' : World} {a : Option Addr} {n : Nat} {ts : List Tok} (h : Toks w a n ts) (hk : ∀ k, k < w.heap.size → w'.heap[k]? = w.heap[k]?) : Toks w' a n ts := by
  obtain ⟨h1, h2, h3⟩ := h
  refine ⟨h1, h2, fun hp => ?_⟩
  obtain ⟨b, off, e, hc⟩ := h3 hp
  exact ⟨b, off, e, fun i t ht => (hc i t ht).up (hk b)⟩
theorem Toks.below {w w' : World} {a : Option Addr} {n : Nat} {ts : List Tok} (h : Toks w a n ts) (hb : Below w.heap.size w w') : Toks w' a n ts := h.later hb.block
theorem Toks.at {w : World} {a : Option Addr} {n i : Nat} {ts : List Tok} (h : Toks w a n ts) (hi : i < n) : ∃ b off t, a = some ⟨b, off, none⟩ ∧ ts[i]? = some t ∧ Fits t ∧ OneTok w b (off + i * 3) t := by
  obtain ⟨h1, h2, h3⟩ := h
  obtain ⟨b, off, e, hc⟩ := h3 (by omega)
  have hl : i < ts.length := by omega
  exact ⟨b, off, ts[i], e, List.getElem?_eq_getElem hl, h2 _ (List.getElem_mem hl), hc i _ (List.getElem?_eq_getElem hl)⟩
theorem drop_cons {α : Type} {ys : List α} {i : Nat} {y : α} (h : ys[i]? = some y) : ys.drop i = y :: ys.drop (i + 1) := by
  obtain ⟨hl, rfl⟩ := List.getElem?_eq_some_iff.1 h
  exact List.drop_eq_getElem_cons hl

/-- May a token stand behind so many bytes? -/
def may (t : Tok) (n : Nat) : Bool := decide (t.L = 0 ∨ (3 ≤ t.L ∧ t.L ≤ 258 ∧ 1 ≤ t.D ∧ t.D ≤ 32768 ∧ t.D ≤ n))
/-- So many bytes more, each the one that stands d ahead. -/
def copied (d : Nat) : Nat → List Nat → List Nat
  | 0, out => out
  | k + 1, out => copied d k out ++ [(copied d k out).getD ((copied d k out).length - d) 0]
/-- What a token brings. -/
def brought (t : Tok) (out : List Nat) : List Nat := if t.L = 0 then out ++ [t.X] else copied t.D.toNat t.L.toNat out
/-- How many bytes a token brings. -/
def wide (t : Tok) : Nat := if t.L = 0 then 1 else t.L.toNat
/-- What tokens bring, behind others, up to most bytes. -/
def brings (most : Int) : List Nat → List Tok → Int × List Nat
  | out, [] => (0, out)
  | out, t :: ts => if may t out.length = false then (22, []) else if most < (out.length + wide t : Nat) then (24, []) else brings most (brought t out) ts
theorem copied_length (d k : Nat) (out : List Nat) : (copied d k out).length = out.length + k := by
  induction k with
  | zero => rfl
  | succ k ih => simp only [copied, List.length_append, List.length_cons, List.length_nil, ih]; omega
theorem brought_length (t : Tok) (out : List Nat) : (brought t out).length = out.length + wide t := by
  unfold brought wide
  split
  · simp
  · rw [copied_length]
theorem copied_lt (d k : Nat) (out : List Nat) (h : ∀ y ∈ out, y < 256) : ∀ y ∈ copied d k out, y < 256 := by
  induction k with
  | zero => exact h
  | succ k ih =>
    intro y hy
    rw [copied, List.mem_append, List.mem_singleton] at hy
    rcases hy with hy | rfl
    · exact ih y hy
    · rw [List.getD_eq_getElem?_getD]
      cases hz : (copied d k out)[(copied d k out).length - d]? with
      | none => simp
      | some z => exact ih z (List.mem_of_getElem? hz)
theorem brought_lt (t : Tok) (out : List Nat) (h : ∀ y ∈ out, y < 256) (ht : t.X < 256) : ∀ y ∈ brought t out, y < 256 := by
  unfold brought
  split
  · intro y hy
    rw [List.mem_append, List.mem_singleton] at hy
    rcases hy with hy | rfl
    · exact h y hy
    · exact ht
  · exact copied_lt _ _ _ h
theorem may_wide {t : Tok} {n : Nat} (h : may t n = true) : 1 ≤ wide t ∧ wide t ≤ 258 := by
  unfold may at h
  simp only [decide_eq_true_eq] at h
  unfold wide
  split <;> omega
theorem brings_nil (most : Int) (out : List Nat) : brings most out [] = (0, out) := rfl
theorem brings_cons (most : Int) (out : List Nat) (t : Tok) (ts : List Tok) : brings most out (t :: ts) = if may t out.length = false then (22, []) else if most < (out.length + wide t : Nat) then (24, []) else brings most (brought t out) ts := rfl
theorem brings_step {most : Int} {out : List Nat} {ts : List Tok} {i : Nat} {t : Tok} (h : ts[i]? = some t) : brings most out (ts.drop i) = if may t out.length = false then (22, []) else if most < (out.length + wide t : Nat) then (24, []) else brings most (brought t out) (ts.drop (i + 1)) := by
  rw [drop_cons h, brings_cons]
theorem brings_lt (most : Int) (out : List Nat) (ts : List Tok) (h : ∀ y ∈ out, y < 256) (ht : ∀ t ∈ ts, t.X < 256) : ∀ y ∈ (brings most out ts).2, y < 256 := by
  induction ts generalizing out with
  | nil => exact h
  | cons t ts ih =>
    rw [brings_cons]
    split
    · intro y hy; cases hy
    · split
      · intro y hy; cases hy
      · exact ih _ (brought_lt t out h (ht t List.mem_cons_self)) (fun t h => ht t (List.mem_cons_of_mem _ h))
theorem brings_err (most : Int) (out : List Nat) (ts : List Tok) : (brings most out ts).1 = 0 ∨ ((brings most out ts).1 = 22 ∨ (brings most out ts).1 = 24) ∧ (brings most out ts).2 = [] := by
  induction ts generalizing out with
  | nil => exact Or.inl rfl
  | cons t ts ih =>
    rw [brings_cons]
    split
    · exact Or.inr ⟨Or.inl rfl, rfl⟩
    · split
      · exact Or.inr ⟨Or.inr rfl, rfl⟩
      · exact ih _
theorem brings_len (most : Int) (out : List Nat) (ts : List Tok) : (brings most out ts).2.length ≤ out.length + 258 * ts.length := by
  induction ts generalizing out with
  | nil => exact Nat.le_add_right _ _
  | cons t ts ih =>
    rw [brings_cons]
    split
    · simp
    · rename_i hm
      split
      · simp
      · have h1 := ih (brought t out)
        have h2 := may_wide (t := t) (n := out.length) (by simpa using hm)
        rw [brought_length] at h1
        rw [List.length_cons]
        omega
end Go.Proofs.Ytaandnikamnbbaa
