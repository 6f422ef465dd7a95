/- JournalDown, plain: what is left behind its loop. -/
import Derived.Test.YthddjfaeacmlhaaDoorJR
import Derived.Test.YthddjfaeacmlhaaDoorJK
namespace Go.Proofs.YthddjfaeacmlhaaDoor
open Go.RowKit Jr
set_option linter.unusedVariables false

theorem left_full {m : Re.M} {b : List Nat} (h : Still m b) (keep : Int) : left_ m keep = b.length := by
  have hlen : m.xs.length = b.length := by rw [h.xs, ints_length]
  unfold left_
  rw [h.safe, hlen]
  omega
/-- What a crash finds. -/
theorem after_mode {m : Re.M} {ls : List (List Nat)} {n2 : Nat} (hf : ∀ p ∈ ls.take n2, p.length ≤ 300 ∧ Byte p) (hn : n2 ≤ 20)
    (h : (Up m ls n2) ∨ ∃ t, n2 = t + 1 ∧ Fell m ls t) :
    ∃ b, m.xs = ints b ∧ Byte b ∧ m.cap = 20000 ∧ b.length ≤ 6160 ∧ ∀ keep, ∃ s, s ≤ n2 ∧ n2 ≤ s + 1 ∧ (scan (b.take (left_ m keep))).1 = ls.take s := by
  have hfit := fit_of (K := 300) (by omega) hf
  have hsh := recs_short (fun p hp => (hf p hp).1)
  have htl : (ls.take n2).length ≤ n2 := by rw [List.length_take]; omega
  have hb : (recs (ls.take n2)).length ≤ 6160 := by
    have := Nat.mul_le_mul_right (300 + 8) htl
    omega
  rcases h with h | ⟨t, rfl, h⟩
  · refine ⟨_, h.still.xs, h.still.byte, h.cap, hb, fun keep => ⟨n2, Nat.le_refl _, by omega, ?_⟩⟩
    rw [left_full h.still, List.take_length, scan_all hfit]
  · obtain ⟨p, hp⟩ : ∃ p, ls[t]? = some p := ⟨_, List.getElem?_eq_getElem h.le⟩
    have e1 : recs (ls.take (t + 1)) = recs (ls.take t) ++ recd p := by rw [take_snoc2 hp, recs_snoc]
    have hft : ∀ q ∈ ls.take t, Fit q := fun q hq => hfit q (by rw [take_snoc2 hp]; exact List.mem_append_left _ hq)
    have hfp : Fit p := hfit p (by rw [take_snoc2 hp]; simp)
    refine ⟨_, h.xs, recs_byte hfit, h.cap, hb, fun keep => ?_⟩
    have hlen : m.xs.length = (recs (ls.take t)).length + (p.length + 8) := by rw [h.xs, ints_length, e1, List.length_append, recd_length]
    obtain ⟨q, hq, hq2⟩ : ∃ q, left_ m keep = (recs (ls.take t)).length + q ∧ q ≤ p.length + 8 := by
      refine ⟨left_ m keep - (recs (ls.take t)).length, ?_, ?_⟩ <;> unfold left_ <;> rw [h.safe, hlen] <;> omega
    have e2 : (recs (ls.take (t + 1))).take (left_ m keep) = recs (ls.take t) ++ (recd p).take q := by
      rw [hq, e1, List.take_append, List.take_of_length_le (by omega)]
      congr 2
      omega
    rw [e2]
    by_cases hql : q < (recd p).length
    · exact ⟨t, by omega, by omega, by rw [scan_less hft hfp hql]⟩
    · refine ⟨t + 1, Nat.le_refl _, by omega, ?_⟩
      have e3 : (recd p).take q = recd p := List.take_of_length_le (by omega)
      rw [e3, ← e1, scan_all hfit]
theorem const4 {w w1 : World} {C : Array Value} {g : Nat} (hw : w1 = w.alloc (.cells C 5)) (hg : g = w.heap.size) :
    (convert 22 22 (.slice (some ⟨g, 0, none⟩) 4 4)).run Tryd.prog w1 = .ok (.slice (some ⟨g, 0, none⟩) 4 4) (w.alloc (.cells C 5 (C.size, C.size + 1))) := by
  subst hg hw
  exact Lib.run_convert_bytes_const (P := Tryd.prog) w 22 5 C 4 4 Tryd.underlying22 Tryd.underlying5
def more : List Nat := [109, 111, 114, 101]
/-- A journal that is up takes one more, and is synced. -/
theorem more_model {m : Re.M} {l : List Nat} (hx : m.xs = ints l) (hd : m.down = false) (hl : m.left < 0) (hc : ((l.length + (more.length + 8) : Nat) : Int) ≤ m.cap) :
    ∃ m1 m2, m.append (ints (recd more)) = (0, m1) ∧ m1.sync = (0, m2) := by
  rw [append_model (p := more) hx hd hc]
  obtain ⟨M, hM⟩ : ∃ M : Re.M, M = { m with xs := ints (l ++ recd more) } := ⟨_, rfl⟩
  rw [← hM]
  have h1 : M.left < 0 := by rw [hM]; exact hl
  have h2 : M.down = false := by rw [hM]; exact hd
  have hs : M.spend = (0, M) := by unfold Re.M.spend; rw [if_neg (by omega), if_neg (by omega)]
  refine ⟨M, { M with safe := (M.xs.length : Nat) }, hs, ?_⟩
  simp only [Re.M.sync, h2, Bool.false_eq_true, if_false]
  rw [if_neg (by omega), hs]
  simp only [h2]
theorem arm_still {m : Re.M} {b : List Nat} (h : Still m b) (z : Int) : Still (m.arm z) b := ⟨h.xs, h.byte, h.safe⟩
end Go.Proofs.YthddjfaeacmlhaaDoor
