/- What a play begins with and ends with: both reels new; a copy beside both. -/
import Derived.Test.YtccfjpjhkaicgaaV6
namespace Go.Proofs.Ytccfjpjhkaicgaa
open Go.RowKit

/-- The program's reel is new; the document's is laid beside it. -/
theorem Both.new {w W : World} {R : Nat} {cap : Int} (h : St w R (M.new cap) W) :
    Both w R (M.new cap) W.heap.size (M.new cap) (W.alloc (.cells #[.slice none 0 0, .int .i64 cap, .int .i64 0, .int .i64 0, .bool false, .bool false] 29)) := by
  obtain ⟨D, h1, h2⟩ := h
  have e1 := h1.lt
  have hb : Below W.heap.size W (W.alloc (.cells #[.slice none 0 0, .int .i64 cap, .int .i64 0, .int .i64 0, .bool false, .bool false] 29)) := (Below.refl _ _).alloc (Nat.le_refl _) _
  refine ⟨D, none, h1.kept (hb.block _ h1.lt) (fun k e => hb.block _ (h1.data_lt e).2), ?_, by omega, ?_, by simp, fun k e => by simp, h2.own (below_keeps hb) (fun _ h => h.elim)⟩
  · refine ⟨h1.ok, h2.size, ⟨0, 0, ?_, ?_, ⟨rfl, by simp [M.new], Or.inl ⟨rfl, rfl⟩⟩, ⟨Nat.le_refl _, Nat.zero_le _, fun _ => rfl⟩⟩, by simp, by simp⟩
    · rw [heap_alloc_new]; rfl
    · intro h; simp [M.new] at h
  · intro e; have := (h1.data_lt e).2; omega

theorem Both.drewN {w W : World} {R T : Nat} {m mt : M} (h : Both w R m T mt W) (n : Nat) : Both w R m T mt (W.drewN n) := by
  obtain ⟨D, E, h1, h2, h3, h4, h5, h6, h7⟩ := h
  exact ⟨D, E, h1.kept rfl (fun _ _ => rfl), h2.kept (Nat.le_refl _) rfl (fun _ _ => rfl), h3, h4, h5, h6, h7.drewN n⟩

/-- Two reels of the program and the document's. -/
def Tri (w : World) (R : Nat) (m : M) (C : Nat) (mc : M) (T : Nat) (mt : M) (W : World) : Prop :=
  ∃ D F E, Reel W w.heap.size R D m ∧ Reel W w.heap.size C F mc ∧ Twin W w.heap.size T E mt ∧ (R ≠ C ∧ D ≠ some C ∧ F ≠ some R ∧ ∀ k, D = some k → F ≠ some k) ∧
    (R ≠ T ∧ D ≠ some T ∧ E ≠ some R ∧ ∀ k, D = some k → E ≠ some k) ∧ (C ≠ T ∧ F ≠ some T ∧ E ≠ some C ∧ ∀ k, F = some k → E ≠ some k) ∧ Keeps (fun _ => False) w W

variable {w W W' : World} {R C T : Nat} {m mc mt : M}

theorem Tri.swap (h : Tri w R m C mc T mt W) : Tri w C mc R m T mt W := by
  obtain ⟨D, F, E, h1, h2, h3, ⟨a1, a2, a3, a4⟩, h5, h6, h7⟩ := h
  exact ⟨F, D, E, h2, h1, h3, ⟨fun e => a1 e.symm, a3, a2, fun k e1 e2 => a4 k e2 e1⟩, h6, h5, h7⟩
theorem Tri.st (h : Tri w R m C mc T mt W) : St w R m W := by
  obtain ⟨D, F, E, h1, h2, h3, h4, h5, h6, h7⟩ := h
  exact ⟨D, h1, h7⟩
theorem Tri.both (h : Tri w R m C mc T mt W) : Both w R m T mt W := by
  obtain ⟨D, F, E, h1, h2, h3, h4, ⟨a1, a2, a3, a4⟩, h6, h7⟩ := h
  exact ⟨D, E, h1, h3, a1, a2, a3, a4, h7⟩
theorem Tri.below (h : Tri w R m C mc T mt W) (hb : Below W.heap.size W W') : Tri w R m C mc T mt W' := by
  obtain ⟨D, F, E, h1, h2, h3, h4, h5, h6, h7⟩ := h
  exact ⟨D, F, E, h1.kept (hb.block _ h1.lt) (fun k e => hb.block _ (h1.data_lt e).2), h2.kept (hb.block _ h2.lt) (fun k e => hb.block _ (h2.data_lt e).2), h3.kept hb.size (hb.block _ h3.lt) (fun k e => hb.block _ (h3.own k e).2), h4, h5, h6, h7.own (below_keeps hb) (fun _ h => h.elim)⟩

theorem clone_tri (h : Both w R m T mt W) :
    Calls Try.prog 14 #[.pointer (some ⟨R, 0, none⟩)] W fun e W' => e = .returned (.pointer (some ⟨W.heap.size, 0, none⟩)) ∧ Tri w R m W.heap.size m T mt W' := by
  obtain ⟨D, E, h1, h2, h3, h4, h5, h6, h7⟩ := h
  refine (clone_any W _ R D m h1 h7.size).mono ?_
  rintro e W' ⟨he, hr, hk⟩
  have e1 := h1.lt
  have e2 := h2.lt
  refine ⟨he, D, some (W.heap.size + 1), E, h1.keeps hk (fun h => h) (fun _ _ h => h), hr, h2.keeps hk (fun h => h) (fun _ _ h => h), ⟨by omega, ?_, by simp; omega, ?_⟩, ⟨h3, h4, h5, h6⟩, ⟨by omega, by simp; omega, ?_, ?_⟩, h7.own hk (fun _ h => h.elim)⟩
  · intro e; have := (h1.data_lt e).2; omega
  · intro k e; have := (h1.data_lt e).2; simp; omega
  · intro e; have := (h2.own _ e).2; omega
  · intro k e1 e2; have := (h2.own _ e2).2; simp at e1; omega

theorem crash_tri (h : Tri w R m C mc T mt W) (keep : Int) :
    Calls Try.prog 15 #[.pointer (some ⟨R, 0, none⟩), .int .i64 keep, .slice none 0 0] W fun e W' => e = .returned (.tuple #[]) ∧ Tri w R (m.crash keep []) C mc T mt W' := by
  obtain ⟨D, F, E, h1, h2, h3, ⟨a1, a2, a3, a4⟩, ⟨b1, b2, b3, b4⟩, h6, h7⟩ := h
  refine (crash_any W _ R D m h1 keep none 0 0 [] ⟨rfl, by simp, Or.inl ⟨rfl, rfl⟩⟩ (fun h => by omega) (Nat.le_refl _) (Nat.zero_le _) (fun _ => rfl)).mono ?_
  rintro e W' ⟨he, hr, hk⟩
  refine ⟨he, D, F, E, hr, h2.keeps hk ?_ ?_, h3.keeps hk ?_ ?_, ⟨a1, a2, a3, a4⟩, ⟨b1, b2, b3, b4⟩, h6, h7.own hk ?_⟩
  · rintro (e | e)
    · exact a1 e.symm
    · exact a2 e.symm
  · rintro k ek (e | e)
    · exact a3 (ek.trans (by rw [e]))
    · exact a4 k e.symm ek
  · rintro (e | e)
    · exact b1 e.symm
    · exact b2 e.symm
  · rintro k ek (e | e)
    · exact b3 (ek.trans (by rw [e]))
    · exact b4 k e.symm ek
  · rintro i (e | e)
    · rw [e]; exact h1.at_
    · exact (h1.data_lt e.symm).1

theorem mix_none (xs : List Int) (p q : Nat) : mix xs [] p q 0 = xs := by
  apply List.ext_getElem?
  intro j
  exact mix_ahead _ _ _ _ _ _ (by omega)

/-- A crash that keeps nothing: what was safe. -/
theorem crash_zero (h : m.Ok) : m.crash 0 [] = loose m.cap (m.xs.take m.safe.toNat) m.safe := by
  have h1 := h.safe0
  have h2 := h.safe1
  unfold M.crash loose
  simp only [List.length_nil, Nat.min_zero, Nat.sub_zero, Nat.sub_self]
  rw [mix_none, show (min (max (0 : Int) 0) ((m.xs.length : Int) - m.safe)).toNat = 0 by omega, Nat.add_zero]
  simp only [M.mk.injEq, true_and, and_true]
  omega
/-- A crash that keeps all. -/
theorem crash_all (h : m.Ok) : m.crash 1073741824 [] = loose m.cap m.xs m.xs.length := by
  have h1 := h.safe0
  have h2 := h.safe1
  have h3 := h.len
  have h4 := h.cap1
  unfold M.crash loose
  simp only [List.length_nil, Nat.min_zero, Nat.sub_zero, Nat.sub_self]
  rw [mix_none, show (min (max (1073741824 : Int) 0) ((m.xs.length : Int) - m.safe)).toNat = m.xs.length - m.safe.toNat by omega, show m.safe.toNat + (m.xs.length - m.safe.toNat) = m.xs.length by omega]
  simp
end Go.Proofs.Ytccfjpjhkaicgaa
