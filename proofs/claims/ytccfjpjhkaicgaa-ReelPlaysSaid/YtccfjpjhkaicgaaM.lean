/- Two reels of a law's own: what is done to the one does nothing to the other. -/
import Derived.Test.YtccfjpjhkaicgaaL
namespace Go.Proofs.Ytccfjpjhkaicgaa
open Go.RowKit

/-- Two reels of the law's own, which began at w. -/
def St2 (w : World) (R : Nat) (m : M) (C : Nat) (mc : M) (W : World) : Prop :=
  ∃ D E, Reel W w.heap.size R D m ∧ Reel W w.heap.size C E mc ∧ R ≠ C ∧ D ≠ some C ∧ E ≠ some R ∧ (∀ k, D = some k → E ≠ some k) ∧ Keeps (fun _ => False) w W

theorem St2.swap {w W : World} {R C : Nat} {m mc : M} (h : St2 w R m C mc W) : St2 w C mc R m W := by
  obtain ⟨D, E, h1, h2, h3, h4, h5, h6, h7⟩ := h
  exact ⟨E, D, h2, h1, fun e => h3 e.symm, h5, h4, fun k e1 e2 => h6 k e2 e1, h7⟩
theorem St2.one {w W : World} {R C : Nat} {m mc : M} (h : St2 w R m C mc W) : St w R m W := by
  obtain ⟨D, E, h1, h2, h3, h4, h5, h6, h7⟩ := h
  exact ⟨D, h1, h7⟩
theorem St2.below {w W W' : World} {R C : Nat} {m mc : M} (h : St2 w R m C mc W) (hb : Below W.heap.size W W') : St2 w R m C mc W' := by
  obtain ⟨D, E, h1, h2, h3, h4, h5, h6, h7⟩ := h
  exact ⟨D, E, h1.kept (hb.block _ h1.lt) (fun k e => hb.block _ (h1.data_lt e).2), h2.kept (hb.block _ h2.lt) (fun k e => hb.block _ (h2.data_lt e).2), h3, h4, h5, h6, h7.own (below_keeps hb) (fun _ h => h.elim)⟩

theorem St2.after {w W W' : World} {R C : Nat} {D E : Option Nat} {m mc : M} {r : Int × M} {e : Ending} (h1 : Reel W w.heap.size R D m) (h2 : Reel W w.heap.size C E mc) (h3 : R ≠ C) (h4 : D ≠ some C) (h5 : E ≠ some R) (h6 : ∀ k, D = some k → E ≠ some k) (h7 : Keeps (fun _ => False) w W)
    (ha : After W w.heap.size R D r e W') : e = .returned (.int .i64 r.1) ∧ St2 w R r.2 C mc W' := by
  obtain ⟨he, D', hr, hk, hD⟩ := ha
  have h2' : Reel W' w.heap.size C E mc := h2.keeps hk (by
      rintro (e | e)
      · exact h3 e.symm
      · exact h4 e.symm) (by
      rintro k ek (e | e)
      · exact h5 (ek.trans (by rw [e]))
      · exact h6 k e.symm ek)
  refine ⟨he, D', E, hr, h2', h3, ?_, h5, ?_, h7.own hk ?_⟩
  · rcases hD with e | ⟨k, e, hk⟩
    · rw [e]; exact h4
    · rw [e]; have := h2.lt; simp; omega
  · intro k ek
    rcases hD with e | ⟨k', e, hk⟩
    · exact h6 k (e ▸ ek)
    · intro e2
      have := (h2.data_lt e2).2
      rw [e] at ek
      simp only [Option.some.injEq] at ek
      omega
  · rintro i (e | e)
    · rw [e]; exact h1.at_
    · exact (h1.data_lt e.symm).1

theorem append_st2 {w W : World} {R C : Nat} {m mc : M} (h : St2 w R m C mc W) {a : Option Addr} {n c : Nat} {ys : List Int} (hs : Src W a n ys) (hf : Fits a n c) :
    Calls Try.prog 18 #[.pointer (some ⟨R, 0, none⟩), .slice a n c] W fun e W' => e = .returned (.int .i64 (m.append ys).1) ∧ St2 w R (m.append ys).2 C mc W' := by
  obtain ⟨D, E, h1, h2, h3, h4, h5, h6, h7⟩ := h
  exact (append_all W _ R D m h1 h7.size a n c ys hs hf).mono (fun e W' ha => St2.after h1 h2 h3 h4 h5 h6 h7 ha)
theorem sync_st2 {w W : World} {R C : Nat} {m mc : M} (h : St2 w R m C mc W) :
    Calls Try.prog 19 #[.pointer (some ⟨R, 0, none⟩)] W fun e W' => e = .returned (.int .i64 m.sync.1) ∧ St2 w R m.sync.2 C mc W' := by
  obtain ⟨D, E, h1, h2, h3, h4, h5, h6, h7⟩ := h
  exact (sync_any W _ R D m h1).mono (fun e W' ha => St2.after h1 h2 h3 h4 h5 h6 h7 ha)
theorem clone_st2 {w W : World} {R : Nat} {m : M} (h : St w R m W) :
    Calls Try.prog 14 #[.pointer (some ⟨R, 0, none⟩)] W fun e W' => e = .returned (.pointer (some ⟨W.heap.size, 0, none⟩)) ∧ St2 w R m W.heap.size m W' := by
  have hsz := h.size
  refine (clone_st h).mono ?_
  rintro e W' ⟨he, hk, D, h0, h1, h2, h3⟩
  have hR := h0.lt
  refine ⟨he, D, some (W.heap.size + 1), h1, h2, by omega, ?_, ?_, ?_, h3⟩
  · intro e; have := (h0.data_lt e).2; omega
  · simp; omega
  · intro k e; have := (h0.data_lt e).2; simp; omega

/-- Read, with what stays. -/
theorem read_bl {w W : World} {R : Nat} {m : M} (h : St w R m W) (hd : m.down = false) (at_ n : Nat) (hr : at_ + n ≤ m.xs.length) :
    Calls Try.prog 16 #[.pointer (some ⟨R, 0, none⟩), .int .i64 at_, .int .i64 n] W fun e W' => e = .returned (.tuple #[.slice (some ⟨W.heap.size, 0, none⟩) n n, .int .i64 0]) ∧
      Below W.heap.size W W' ∧ Src W' (some ⟨W.heap.size, 0, none⟩) n ((m.xs.drop at_).take n) := by
  obtain ⟨D, h1, h2⟩ := h
  refine (read_ok W _ R D m h1 at_ n hd hr).mono ?_
  rintro e W' ⟨he, hh, hb⟩
  refine ⟨he, hb, by simp; omega, fun y hy => h1.ok.byte y (List.mem_of_mem_drop (List.mem_of_mem_take hy)), Or.inr ⟨_, rfl, ?_⟩⟩
  have k := cell_at (at_ := 0) (n := ((m.xs.drop at_).take n).length) (len := ((m.xs.drop at_).take n).length) (xs := (m.xs.drop at_).take n) hh (by rw [List.take_of_length_le (by simp)])
  rw [List.drop_zero, List.take_of_length_le (Nat.le_refl _)] at k
  exact k
end Go.Proofs.Ytccfjpjhkaicgaa
