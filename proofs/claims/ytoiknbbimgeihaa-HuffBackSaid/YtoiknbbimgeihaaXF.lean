/- The walk of pairs. -/
import Derived.Test.YtoiknbbimgeihaaXE
import Derived.Test.YtoiknbbimgeihaaXP
namespace Go.Proofs.Ytoiknbbimgeihaa
open Go.RowKit
set_option linter.unusedVariables false

theorem pairs_get (l : List Nat) (i : Nat) (h : i < l.length / 2) : (Huff.pairs l)[i]? = some (l.getD (2 * i) 0 + l.getD (2 * i + 1) 0) := by
  match l, i with
  | [], i => simp at h
  | [_], i => simp at h
  | a :: b :: l, 0 => simp [Huff.pairs]
  | a :: b :: l, i + 1 =>
    have ih := pairs_get l i (by simp only [List.length_cons] at h; omega)
    rw [Huff.pairs, List.getElem?_cons_succ, ih, show 2 * (i + 1) = 2 * i + 1 + 1 by omega, List.getD_cons_succ, List.getD_cons_succ, show 2 * i + 1 + 1 + 1 = (2 * i + 1) + 1 + 1 by omega, List.getD_cons_succ, List.getD_cons_succ]
theorem natZ_get {us : List Nat} {i : Nat} (h : i < us.length) : (natZ us)[i]? = some ((us.getD i 0 : Nat) : Int) := by
  unfold natZ
  rw [List.getElem?_map, List.getElem?_eq_getElem h, List.getD_eq_getElem?_getD, List.getElem?_eq_getElem h]; rfl
theorem getD_le {us : List Nat} {B : Nat} (h : ∀ u ∈ us, u ≤ B) (i : Nat) : us.getD i 0 ≤ B := by
  rw [List.getD_eq_getElem?_getD]
  cases hu : us[i]? with
  | none => simp
  | some u => exact h u (List.mem_of_getElem? hu)
theorem natZ_le {us : List Nat} (h : ∀ u ∈ us, u ≤ 9223372036854775807) : ∀ z ∈ natZ us, -9223372036854775808 ≤ z ∧ z ≤ 9223372036854775807 := by
  intro z hz
  simp only [natZ, List.mem_map] at hz
  obtain ⟨u, hu, rfl⟩ := hz
  have := h u hu
  omega
theorem pairs_le {l : List Nat} {B : Nat} (h : ∀ u ∈ l, u ≤ B) : ∀ u ∈ Huff.pairs l, u ≤ 2 * B := by
  intro u hu
  obtain ⟨i, hi⟩ := List.mem_iff_getElem?.1 hu
  have hl := (List.getElem?_eq_some_iff.1 hi).1
  rw [Huff.pairs_length] at hl
  rw [pairs_get l i hl] at hi
  cases hi
  have := getD_le h (2 * i)
  have := getD_le h (2 * i + 1)
  omega

set_option maxRecDepth 100000 in
set_option maxHeartbeats 1600000 in
theorem pairs_any (w : World) (a : Option Addr) (n c : Nat) (ps : List Nat) (h : Ints w a n (natZ ps)) (hn : n ≤ 16777216) (hps : ∀ p ∈ ps, p ≤ 4611686018427387903) :
    Calls Try.prog 32 #[.slice a n c] w fun e w' => ∃ g, e = .returned (.slice (some ⟨g, 0, none⟩) (Huff.pairs ps).length (Huff.pairs ps).length) ∧ Ints w' (some ⟨g, 0, none⟩) (Huff.pairs ps).length (natZ (Huff.pairs ps)) ∧ Below w.heap.size w w' := by
  have hl : ps.length = n := by have := h.1; rwa [natZ_length] at this
  have hpl : (Huff.pairs ps).length = n / 2 := by rw [Huff.pairs_length, hl]
  have HZ := Lib.hid h
  have hq : (n : Int).tdiv 2 = ((n / 2 : Nat) : Int) := rfl
  obtain ⟨m, hm⟩ : ∃ m, m = n / 2 := ⟨_, rfl⟩
  have hmk := run_make_row' (P := Try.prog) 22 3 (.int .i64 0) 8 Try.underlying22 info3 rfl .i64 .i64 m (by omega) (by omega)
  have HPL := Lib.hid (show (Huff.pairs ps).length = m by rw [hpl, hm])
  have HPS := Lib.hid hps
  have HL := Lib.hid hl
  rw [← hm] at hq
  have hq2 : (n : Int) / 2 = (m : Int) := by omega
  have hq3 : wrap64 (m : Int) = (m : Int) := IntWalk.wrap64_in _ (by omega)
  have HM := Lib.hid hm
  have hmn : 2 * m ≤ n := by omega
  clear h hl hpl hps
  rw [show (Huff.pairs ps).length = m from HPL.out]
  go_enter Try.func32, Try.ntmps32
  clear hm
  go_wp2
  clear hq hq2 hq3 hmk
  go_loopw [11] (fun cnt wr => ∃ i : Nat, i ≤ m ∧ cnt = .int .i64 i ∧ Row wr w.heap.size m (fun j => if j < i then ((Huff.pairs ps).getD j 0 : Nat) else 0) ∧ Below w.heap.size w wr) (fun cnt _ => m - (intOf cnt).toNat)
  case atStart => exact ⟨0, Nat.zero_le _, rfl, (made_row w m).congr (fun j _ => by simp), (Below.refl _ _).alloc (Nat.le_refl _) _⟩
  case round =>
    obtain ⟨i, hi, rfl, hrow, hb⟩ := hrel
    by_cases hlt : i < m
    · have hp := pairs_get ps i (by rw [HL.out, ← HM.out]; exact hlt)
      have h0 := natZ_get (us := ps) (i := 2 * i) (by rw [HL.out]; omega)
      have h1 := natZ_get (us := ps) (i := 2 * i + 1) (by rw [HL.out]; omega)
      obtain ⟨b, off, z0, rfl, e0, _, c0⟩ := (HZ.out.below hb).at (i := 2 * i) (by omega)
      obtain ⟨b', off', z1, e, e1, _, c1⟩ := (HZ.out.below hb).at (i := 2 * i + 1) (by omega)
      simp only [Option.some.injEq, Addr.mk.injEq] at e
      obtain ⟨rfl, rfl, -⟩ := e
      rw [h0] at e0
      rw [h1] at e1
      cases e0
      cases e1
      have hb0 := getD_le HPS.out (2 * i)
      have hb1 := getD_le HPS.out (2 * i + 1)
      obtain ⟨p0, q0⟩ : ∃ p0, p0 = ps.getD (2 * i) 0 := ⟨_, rfl⟩
      obtain ⟨p1, q1⟩ : ∃ p1, p1 = ps.getD (2 * i + 1) 0 := ⟨_, rfl⟩
      rw [← q0] at hb0 c0 hp
      rw [← q1] at hb1 c1 hp
      have hpd : (Huff.pairs ps).getD i 0 = p0 + p1 := by rw [List.getD_eq_getElem?_getD, hp]; rfl
      obtain ⟨old, hold, hfr⟩ : ∃ old : Int, wr.cell? ⟨w.heap.size, i, none⟩ = some (.int .i64 old) ∧ wr.frozen? ⟨w.heap.size, i, none⟩ = false := ⟨_, hrow.cell hlt⟩
      have X := Lib.hid (show Row (wr.setCell ⟨w.heap.size, i, none⟩ (.int .i64 ((p0 : Int) + p1))) w.heap.size m (fun j => if j < i + 1 then ((Huff.pairs ps).getD j 0 : Nat) else 0) ∧ Below w.heap.size w (wr.setCell ⟨w.heap.size, i, none⟩ (.int .i64 ((p0 : Int) + p1))) from by
        refine ⟨hrow.set hlt (fun j hj => ?_), below_set hb (Nat.le_refl _) _⟩
        by_cases hji : j = i
        · subst hji
          rw [if_pos (by omega), if_pos rfl, hpd]; omega
        · rw [if_neg hji]
          by_cases hj2 : j < i
          · rw [if_pos hj2, if_pos (by omega)]
          · rw [if_neg hj2, if_neg (by omega)])
      clear hrow hb h0 h1 q0 q1 hp hpd
      have l0 : 2 * i < n := by omega
      have l1 : 2 * i + 1 < n := by omega
      obtain ⟨k0, k1, k2, k3, k4, k5⟩ : wrap64 (2 * (i : Int)) = ((2 * i : Nat) : Int) ∧ IntKind.i64.wrap (2 * (i : Int)) = ((2 * i : Nat) : Int) ∧ wrap64 (((2 * i : Nat) : Int) + 1) = ((2 * i + 1 : Nat) : Int) ∧ IntKind.i64.wrap (((2 * i : Nat) : Int) + 1) = ((2 * i + 1 : Nat) : Int) ∧ wrap64 ((p0 : Int) + p1) = (p0 : Int) + p1 ∧ IntKind.i64.wrap ((p0 : Int) + p1) = (p0 : Int) + p1 := by
        rw [IntWalk.wrap64_in _ (by omega), wrap_i64 _ (by omega) (by omega), IntWalk.wrap64_in _ (by omega), wrap_i64 _ (by omega) (by omega), IntWalk.wrap64_in _ (by omega), wrap_i64 _ (by omega) (by omega)]
        exact ⟨by simp, by simp, by simp, by simp, rfl, rfl⟩
      obtain ⟨t0, ht0⟩ : ∃ t0, t0 = 2 * i := ⟨_, rfl⟩
      obtain ⟨t1, ht1⟩ : ∃ t1, t1 = 2 * i + 1 := ⟨_, rfl⟩
      rw [← ht1] at k2 k3 c1 l1
      rw [← ht0] at k0 k1 k2 k3 c0
      rw [← ht0] at l0
      clear ht0 ht1
      go_wp2
      go_still_tail 15, (by kernel_rfl)
      change wpList _ _ _ _ _ wr.drew
      go_wp2
      go_roundw
      case rel => exact ⟨i + 1, hlt, by go_num, X.out.1, below_drew X.out.2⟩
      case measure => simp [intOf]; omega
    · obtain rfl : i = m := by omega
      have hin : Ints wr (some ⟨w.heap.size, 0, none⟩) i (natZ (Huff.pairs ps)) := hrow.ints (by rw [natZ_length, HPL.out]) (natZ_le (fun u hu => by have := pairs_le HPS.out u hu; omega)) (fun j hj => by
        rw [if_pos hj]
        exact natZ_get (by rw [HPL.out]; exact hj))
      have X := Lib.hid (And.intro hin hb)
      clear hrow hb hin
      go_wp2
      go_ret
      exact ⟨w.heap.size, rfl, X.out.1, X.out.2⟩
end Go.Proofs.Ytoiknbbimgeihaa
