/- The reel's model under a journal, plain. -/
import Derived.Test.YthddjfaeacmlhaaDoorJP
namespace Go.Proofs.YthddjfaeacmlhaaDoor
open Go.RowKit Jr
set_option linter.unusedVariables false

theorem take_snoc2 {α : Type} {ls : List α} {i : Nat} {p : α} (h : ls[i]? = some p) : ls.take (i + 1) = ls.take i ++ [p] := by
  rw [List.take_add_one, h]; rfl
/-- How many bytes a crash leaves. -/
def left_ (m : Re.M) (keep : Int) : Nat := m.safe.toNat + (min (max keep 0) ((m.xs.length : Int) - m.safe)).toNat
theorem crash_nil (m : Re.M) (keep : Int) : m.crash keep [] = { cap := m.cap, xs := m.xs.take (left_ m keep), safe := (left_ m keep : Nat), left := -1, down := false } := by
  simp [Re.M.crash, left_, Re.mix]
theorem ok_safe {m : Re.M} (h : m.Ok) : ∃ s : Nat, m.safe = s ∧ s ≤ m.xs.length := ⟨m.safe.toNat, by have := h.safe0; omega, by have := h.safe0; have := h.safe1; omega⟩

/-- A reel that holds bytes, all of them safe. -/
structure Still (m : Re.M) (b : List Nat) : Prop where
  xs : m.xs = ints b
  byte : Byte b
  safe : m.safe = (b.length : Nat)
theorem scan_recs_of {b : List Nat} (hb : Byte b) : scan (b.take (scan b).2) = scan b := by
  have k := scan_found hb
  rw [k.2.2.1, scan_all k.1, ← scan_end hb]
theorem spend_form (m : Re.M) : m.spend = (11, { m with down := true }) ∧ m.left = 0 ∨ m.spend = (0, { m with left := m.left - 1 }) ∧ 0 < m.left ∨ m.spend = (0, m) ∧ m.left < 0 := by
  unfold Re.M.spend
  by_cases h : m.left = 0
  · rw [if_pos h]; exact Or.inl ⟨rfl, h⟩
  · rw [if_neg h]
    by_cases h2 : 0 < m.left
    · rw [if_pos h2]; exact Or.inr (Or.inl ⟨rfl, h2⟩)
    · rw [if_neg h2]; exact Or.inr (Or.inr ⟨rfl, by omega⟩)
/-- What settle leaves of bytes that are all safe. -/
theorem settle_still {m : Re.M} {b : List Nat} (h : Still m b) (hd : m.down = false) :
    ∃ f m' b', settleM m (scan b).2 = (f, m') ∧ (f = 0 ∨ f = 11) ∧ Still m' b' ∧ scan b' = scan b ∧ m'.cap = m.cap ∧ (f = 0 → m'.down = false ∧ b' = recs (scan b).1) ∧ (m.left < 0 → f = 0 ∧ m'.left = m.left) := by
  have hE := (scan_found h.byte).2.1
  have hfr := (scan_found h.byte).2.2.1
  have hlen : m.xs.length = b.length := by rw [h.xs, ints_length]
  have hss := scan_recs_of h.byte
  obtain ⟨E, hEd⟩ : ∃ E, E = (scan b).2 := ⟨_, rfl⟩
  rw [← hEd] at hE hfr hss ⊢
  by_cases hlt : E < m.xs.length
  · simp only [settleM, if_pos hlt]
    have hst : Still m b := h
    have hcut : m.cut E = if m.left = 0 then m.spend else (0, { m.spend.2 with xs := m.xs.take E, safe := min m.safe E }) := by
      simp only [Re.M.cut, hd, Bool.false_eq_true, if_false]
      rw [if_neg (by omega)]
      simp
    have hb' : Byte (b.take E) := h.byte.take E
    have hl' : (b.take E).length = E := by rw [List.length_take]; omega
    rcases spend_form m with ⟨hs, hl⟩ | ⟨hs, hl⟩ | ⟨hs, hl⟩
    · have hc : m.cut E = (11, { m with down := true }) := by rw [hcut, if_pos hl, hs]
      rw [hc]
      simp only
      rw [if_neg (by decide)]
      exact ⟨11, _, b, rfl, Or.inr rfl, ⟨h.xs, h.byte, h.safe⟩, rfl, rfl, fun e => absurd e (by decide), fun e => absurd e (by omega)⟩
    · have hsafe : min m.safe (E : Int) = (E : Int) := by rw [h.safe]; omega
      have hx : m.xs.take E = ints (b.take E) := by rw [h.xs, ints_take]
      have hc : m.cut E = (0, { m with left := m.left - 1, xs := ints (b.take E), safe := (E : Int) }) := by rw [hcut, if_neg (show ¬ m.left = 0 by omega), hs, hsafe, hx]
      rw [hc]
      simp only
      rw [if_pos trivial]
      simp only [Re.M.sync, hd, Bool.false_eq_true, if_false]
      by_cases h0 : m.left - 1 = 0
      · rw [if_pos h0]
        simp only [Re.M.spend, if_pos h0]
        exact ⟨11, _, b.take E, rfl, Or.inr rfl, ⟨rfl, hb', by rw [hl']⟩, hss, rfl, fun e => absurd e (by decide), fun e => absurd e (by omega)⟩
      · rw [if_neg h0]
        simp only [Re.M.spend, if_neg h0, if_pos (show 0 < m.left - 1 by omega), ints_length, hl']
        exact ⟨0, _, b.take E, rfl, Or.inl rfl, ⟨rfl, hb', by rw [hl']⟩, hss, rfl, fun _ => ⟨rfl, hfr⟩, fun e => absurd e (by omega)⟩
    · have hsafe : min m.safe (E : Int) = (E : Int) := by rw [h.safe]; omega
      have hx : m.xs.take E = ints (b.take E) := by rw [h.xs, ints_take]
      have hc : m.cut E = (0, { m with xs := ints (b.take E), safe := (E : Int) }) := by rw [hcut, if_neg (show ¬ m.left = 0 by omega), hs, hsafe, hx]
      rw [hc]
      simp only
      rw [if_pos trivial]
      simp only [Re.M.sync, hd, Bool.false_eq_true, if_false]
      rw [if_neg (show ¬ m.left = 0 by omega)]
      simp only [Re.M.spend, if_neg (show ¬ m.left = 0 by omega), if_neg (show ¬ 0 < m.left by omega), ints_length, hl']
      exact ⟨0, _, b.take E, rfl, Or.inl rfl, ⟨rfl, hb', by rw [hl']⟩, hss, rfl, fun _ => ⟨rfl, hfr⟩, fun _ => ⟨rfl, rfl⟩⟩
  · simp only [settleM, if_neg hlt]
    have e : E = b.length := by omega
    have hall : b = recs (scan b).1 := by rw [← hfr, e, List.take_length]
    simp only [Re.M.sync, hd, Bool.false_eq_true, if_false]
    rcases spend_form m with ⟨hs, hl⟩ | ⟨hs, hl⟩ | ⟨hs, hl⟩
    · rw [if_pos hl, hs]
      exact ⟨11, _, b, rfl, Or.inr rfl, ⟨h.xs, h.byte, h.safe⟩, rfl, rfl, fun e => absurd e (by decide), fun e => absurd e (by omega)⟩
    · rw [if_neg (by omega), hs]
      exact ⟨0, _, b, rfl, Or.inl rfl, ⟨h.xs, h.byte, by simp only [hlen]⟩, rfl, rfl, fun _ => ⟨hd, hall⟩, fun e => absurd e (by omega)⟩
    · rw [if_neg (by omega), hs]
      exact ⟨0, _, b, rfl, Or.inl rfl, ⟨h.xs, h.byte, by simp only [hlen]⟩, rfl, rfl, fun _ => ⟨hd, hall⟩, fun _ => ⟨rfl, rfl⟩⟩
/-- What a crash without garbling leaves. -/
theorem crash_still {m : Re.M} (ok : m.Ok) {b : List Nat} (hx : m.xs = ints b) (hb : Byte b) (keep : Int) : Still (m.crash keep []) (b.take (left_ m keep)) ∧ (m.crash keep []).down = false ∧ (m.crash keep []).left = -1 ∧ (m.crash keep []).cap = m.cap := by
  rw [crash_nil]
  obtain ⟨s, hs, hsl⟩ := ok_safe ok
  have hlen : m.xs.length = b.length := by rw [hx, ints_length]
  have hl : left_ m keep ≤ b.length := by unfold left_; rw [hs]; omega
  refine ⟨⟨by simp only [hx, ints_take], hb.take _, ?_⟩, rfl, rfl, rfl⟩
  simp only [List.length_take]
  omega
/-- Crashed with nothing kept: all that was safe. -/
theorem crash_zero {m : Re.M} {b : List Nat} (h : Still m b) : Still (m.crash 0 []) b ∧ (m.crash 0 []).down = false ∧ (m.crash 0 []).left = -1 ∧ (m.crash 0 []).cap = m.cap := by
  rw [crash_nil]
  have hlen : m.xs.length = b.length := by rw [h.xs, ints_length]
  have e : left_ m 0 = b.length := by unfold left_; rw [h.safe, hlen]; omega
  rw [e, List.take_of_length_le (by omega)]
  exact ⟨⟨h.xs, h.byte, rfl⟩, rfl, rfl, rfl⟩

/-! A reel that records are appended to and synced, until it goes down. -/
/-- All that was appended is there and safe; it isn't down. -/
structure Up (m : Re.M) (ls : List (List Nat)) (i : Nat) : Prop where
  still : Still m (recs (ls.take i))
  up : m.down = false
  cap : m.cap = 20000
/-- It went down at record t. -/
structure Fell (m : Re.M) (ls : List (List Nat)) (t : Nat) : Prop where
  xs : m.xs = ints (recs (ls.take (t + 1)))
  safe : m.safe = ((recs (ls.take t)).length : Nat)
  down : m.down = true
  cap : m.cap = 20000
  le : t < ls.length
theorem ints_recs {ls : List (List Nat)} {i : Nat} {p : List Nat} (hp : ls[i]? = some p) : ints (recs (ls.take i)) ++ ints (recd p) = ints (recs (ls.take (i + 1))) := by
  rw [← ints_append, take_snoc2 hp, recs_snoc]
end Go.Proofs.YthddjfaeacmlhaaDoor
