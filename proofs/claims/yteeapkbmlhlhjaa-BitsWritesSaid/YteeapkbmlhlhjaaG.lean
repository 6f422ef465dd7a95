/- A writer of the law's own: its methods' contracts over the world at the law's start; two writers; a block that neither reaches; the document's example. -/
import Derived.Test.YteeapkbmlhlhjaaF
import Derived.WalkSpells
namespace Go.Proofs.Yteeapkbmlhlhjaa
open Go.RowKit

/-- Nothing that was there has turned. -/
def Yes (w : World) (e : Ending) (w' : World) : Prop := e = .returned (.bool true) ∧ Keeps (fun _ => False) w w'

theorem Keeps.own {S : Nat → Prop} {w W W' : World} (h : Keeps (fun _ => False) w W) (k : Keeps S W W') (hS : ∀ i, S i → w.heap.size ≤ i) : Keeps (fun _ => False) w W' :=
  h.trans k (fun i hi s => by have := hS i s; omega)
theorem Keeps.one (w : World) (R i : Nat) (u : Value) : Keeps (fun k => k = R) w (w.setCell ⟨R, i, none⟩ u) := (Keeps.refl (fun k => k = R) w).setCell (p := ⟨R, i, none⟩) (fun _ => rfl) u

/-- A writer of the law's own, which began at w. -/
def St (w : World) (P : Nat) (high : Bool) (L : List Bool) (W : World) : Prop := ∃ D, Wr W w.heap.size P D high L ∧ Keeps (fun _ => False) w W
/-- The same, and a block that it doesn't reach. -/
def StP (w : World) (P : Nat) (high : Bool) (L : List Bool) (O : Nat) (ob : Obj) (W : World) : Prop :=
  ∃ D, Wr W w.heap.size P D high L ∧ Keeps (fun _ => False) w W ∧ W.heap[O]? = some ob ∧ O ≠ P ∧ D ≠ some O

variable {w W W' : World} {P R O : Nat} {high hr : Bool} {L L' M M' : List Bool} {ob : Obj}

theorem St.keeps (h : St w P high L W) : Keeps (fun _ => False) w W := by obtain ⟨D, h1, h2⟩ := h; exact h2
theorem St.size (h : St w P high L W) : w.heap.size ≤ W.heap.size := h.keeps.size
theorem St.lt (h : St w P high L W) : P < W.heap.size := by obtain ⟨D, h1, h2⟩ := h; exact Raw.lt h1
theorem StP.st (h : StP w P high L O ob W) : St w P high L W := by obtain ⟨D, h1, h2, h3⟩ := h; exact ⟨D, h1, h2⟩
theorem StP.pin (h : StP w P high L O ob W) : W.heap[O]? = some ob := by obtain ⟨D, h1, h2, h3, h4⟩ := h; exact h3
/-- Blocks that it doesn't reach have turned. -/
theorem St.other {S : Nat → Prop} (h : St w P high L W) (hk : Keeps S W W') (hS : ∀ k, k < W.heap.size → ¬ S k) : St w P high L W' := by
  obtain ⟨D, h1, h2⟩ := h
  refine ⟨D, Raw.keeps h1 hk (hS _ (Raw.lt h1)) (fun k e => hS k (Raw.data_lt h1 e).2), h2.trans hk (fun i hi s => hS i (Nat.lt_of_lt_of_le hi h2.size) s)⟩
theorem St.below (h : St w P high L W) (hb : Below W.heap.size W W') : St w P high L W' := h.other (below_keeps hb) (fun _ _ h => h)
theorem St.drewN (h : St w P high L W) (n : Nat) : St w P high L (W.drewN n) := h.below ⟨rfl, rfl, rfl, Nat.le_refl _, fun _ _ => rfl⟩
theorem St.alloc (h : St w P high L W) (c : Array Value) (t : TypeId) : StP w P high L W.heap.size (.cells c t (0, 0)) (W.alloc (.cells c t)) := by
  have hb : Below W.heap.size W (W.alloc (.cells c t)) := (Below.refl _ _).alloc (Nat.le_refl _) _
  have hP := h.lt
  obtain ⟨D, h1, h2⟩ := h
  exact ⟨D, Raw.kept h1 (hb.block _ (Raw.lt h1)) (fun k e => hb.block _ (Raw.data_lt h1 e).2), h2.own (below_keeps hb) (fun _ h => h.elim), heap_alloc_new _ _, by omega, fun e => by have := (Raw.data_lt h1 e).2; omega⟩
theorem StP.below (h : StP w P high L O ob W) (hb : Below W.heap.size W W') : StP w P high L O ob W' := by
  obtain ⟨D, h1, h2, h3, h4⟩ := h
  exact ⟨D, Raw.kept h1 (hb.block _ (Raw.lt h1)) (fun k e => hb.block _ (Raw.data_lt h1 e).2), h2.own (below_keeps hb) (fun _ h => h.elim), (hb.block _ (lt_of_block h3)).trans h3, h4⟩
theorem StP.drewN (h : StP w P high L O ob W) (n : Nat) : StP w P high L O ob (W.drewN n) := h.below ⟨rfl, rfl, rfl, Nat.le_refl _, fun _ _ => rfl⟩
theorem StP.drew (h : StP w P high L O ob W) : StP w P high L O ob W.drew := h.below ⟨rfl, rfl, rfl, Nat.le_refl _, fun _ _ => rfl⟩

theorem StP.step {D : Option Nat} (h1 : Wr W w.heap.size P D high L) (h2 : Keeps (fun _ => False) w W) (h3 : W.heap[O]? = some ob ∧ O ≠ P ∧ D ≠ some O) (ht : Then W w.heap.size P D high L' W') : StP w P high L' O ob W' := by
  obtain ⟨D', q1, q2, q3⟩ := ht
  have hO := lt_of_block h3.1
  refine ⟨D', q1, h2.own q2 ?_, (q2.block O hO ?_).trans h3.1, h3.2.1, ?_⟩
  · rintro i (e | e)
    · rw [e]; exact h1.at_
    · exact (Raw.data_lt h1 e.symm).1
  · rintro (e | e)
    · exact h3.2.1 e
    · exact h3.2.2 e.symm
  · rcases q3 with e | ⟨k, e, hk⟩
    · rw [e]; exact h3.2.2
    · rw [e]; simp; omega
theorem St.step {D : Option Nat} (h1 : Wr W w.heap.size P D high L) (h2 : Keeps (fun _ => False) w W) (ht : Then W w.heap.size P D high L' W') : St w P high L' W' := by
  obtain ⟨D', q1, q2, q3⟩ := ht
  refine ⟨D', q1, h2.own q2 ?_⟩
  rintro i (e | e)
  · rw [e]; exact h1.at_
  · exact (Raw.data_lt h1 e.symm).1

theorem new_st (hk : Keeps (fun _ => False) w W) (high : Bool) :
    Calls Try.prog 9 #[.bool high] W fun e W' => e = .returned (.pointer (some ⟨W.heap.size, 0, none⟩)) ∧ St w W.heap.size high [] W' := by
  refine (new_any W w.heap.size hk.size high).mono ?_
  rintro e W' ⟨he, hr, _, hk'⟩
  exact ⟨he, none, hr, hk.own hk' (fun _ h => h.elim)⟩
theorem put_st (h : St w P high L W) (hl : L.length ≤ 16777216) (v n : Int) :
    Calls Try.prog 11 #[.pointer (some ⟨P, 0, none⟩), .int .i64 v, .int .i64 n] W fun e W' => e = .returned (.bool (fits v n)) ∧ St w P high (put high L v n) W' := by
  obtain ⟨D, h1, h2⟩ := h
  exact (put_any W _ P D high L h1 h2.size hl v n).mono (fun e W' ⟨he, ht⟩ => ⟨he, St.step h1 h2 ht⟩)
theorem put_stP (h : StP w P high L O ob W) (hl : L.length ≤ 16777216) (v n : Int) :
    Calls Try.prog 11 #[.pointer (some ⟨P, 0, none⟩), .int .i64 v, .int .i64 n] W fun e W' => e = .returned (.bool (fits v n)) ∧ StP w P high (put high L v n) O ob W' := by
  obtain ⟨D, h1, h2, h3⟩ := h
  exact (put_any W _ P D high L h1 h2.size hl v n).mono (fun e W' ⟨he, ht⟩ => ⟨he, StP.step h1 h2 h3 ht⟩)
theorem fill_stP (h : StP w P high L O ob W) (hl : L.length ≤ 16777216) (bit : Int) (hb0 : -9223372036854775808 ≤ bit) (hb1 : bit ≤ 9223372036854775807) :
    Calls Try.prog 10 #[.pointer (some ⟨P, 0, none⟩), .int .i64 bit] W fun e W' => e = .returned (.tuple #[]) ∧ StP w P high (fill L bit) O ob W' := by
  obtain ⟨D, h1, h2, h3⟩ := h
  exact (fill_any W _ P D high L h1 h2.size hl bit hb0 hb1).mono (fun e W' ⟨he, ht⟩ => ⟨he, StP.step h1 h2 h3 ht⟩)
theorem bytes_st (h : St w P high L W) (hl : L.length ≤ 16777216) : Calls Try.prog 14 #[.pointer (some ⟨P, 0, none⟩)] W (Told W (packed high L)) := by
  obtain ⟨D, h1, h2⟩ := h
  exact bytes_any W _ P D high L h1 hl
theorem count_st (h : St w P high L W) (hl : L.length ≤ 16777216) : Calls Try.prog 15 #[.pointer (some ⟨P, 0, none⟩)] W fun e W' => e = .returned (.int .i64 L.length) ∧ ∃ n, W' = W.drewN n := by
  obtain ⟨D, h1, h2⟩ := h
  exact count_any W _ P D high L h1 hl

/-- Two writers of the law's own; and a block that neither reaches. -/
def TwoP (w : World) (P : Nat) (high : Bool) (L : List Bool) (R : Nat) (hr : Bool) (M : List Bool) (O : Nat) (ob : Obj) (W : World) : Prop :=
  ∃ D E, Wr W w.heap.size P D high L ∧ Wr W w.heap.size R E hr M ∧ (P ≠ R ∧ D ≠ some R ∧ E ≠ some P ∧ ∀ k, D = some k → E ≠ some k) ∧ Keeps (fun _ => False) w W ∧ (W.heap[O]? = some ob ∧ O ≠ P ∧ D ≠ some O ∧ O ≠ R ∧ E ≠ some O)
def Two (w : World) (P : Nat) (high : Bool) (L : List Bool) (R : Nat) (hr : Bool) (M : List Bool) (W : World) : Prop :=
  ∃ D E, Wr W w.heap.size P D high L ∧ Wr W w.heap.size R E hr M ∧ (P ≠ R ∧ D ≠ some R ∧ E ≠ some P ∧ ∀ k, D = some k → E ≠ some k) ∧ Keeps (fun _ => False) w W

theorem TwoP.two (h : TwoP w P high L R hr M O ob W) : Two w P high L R hr M W := by obtain ⟨D, E, h1, h2, h3, h4, h5⟩ := h; exact ⟨D, E, h1, h2, h3, h4⟩
theorem TwoP.pin (h : TwoP w P high L R hr M O ob W) : W.heap[O]? = some ob := by obtain ⟨D, E, h1, h2, h3, h4, h5⟩ := h; exact h5.1
theorem Two.swap (h : Two w P high L R hr M W) : Two w R hr M P high L W := by
  obtain ⟨D, E, h1, h2, ⟨a, b, c, d⟩, h4⟩ := h
  exact ⟨E, D, h2, h1, ⟨fun e => a e.symm, c, b, fun k e1 e2 => d k e2 e1⟩, h4⟩
theorem TwoP.swap (h : TwoP w P high L R hr M O ob W) : TwoP w R hr M P high L O ob W := by
  obtain ⟨D, E, h1, h2, ⟨a, b, c, d⟩, h4, ⟨p, q, r, s, t⟩⟩ := h
  exact ⟨E, D, h2, h1, ⟨fun e => a e.symm, c, b, fun k e1 e2 => d k e2 e1⟩, h4, ⟨p, s, t, q, r⟩⟩
theorem Two.st (h : Two w P high L R hr M W) : St w P high L W := by obtain ⟨D, E, h1, h2, h3, h4⟩ := h; exact ⟨D, h1, h4⟩
theorem Two.keeps (h : Two w P high L R hr M W) : Keeps (fun _ => False) w W := h.st.keeps
theorem Two.other {S : Nat → Prop} (h : Two w P high L R hr M W) (hk : Keeps S W W') (hS : ∀ k, k < W.heap.size → ¬ S k) : Two w P high L R hr M W' := by
  obtain ⟨D, E, h1, h2, h3, h4⟩ := h
  exact ⟨D, E, Raw.keeps h1 hk (hS _ (Raw.lt h1)) (fun k e => hS k (Raw.data_lt h1 e).2), Raw.keeps h2 hk (hS _ (Raw.lt h2)) (fun k e => hS k (Raw.data_lt h2 e).2), h3, h4.trans hk (fun i hi s => hS i (Nat.lt_of_lt_of_le hi h4.size) s)⟩
theorem Two.below (h : Two w P high L R hr M W) (hb : Below W.heap.size W W') : Two w P high L R hr M W' := h.other (below_keeps hb) (fun _ _ h => h)
theorem Two.drewN (h : Two w P high L R hr M W) (n : Nat) : Two w P high L R hr M (W.drewN n) := h.below ⟨rfl, rfl, rfl, Nat.le_refl _, fun _ _ => rfl⟩
theorem Two.alloc (h : Two w P high L R hr M W) (c : Array Value) (t : TypeId) : TwoP w P high L R hr M W.heap.size (.cells c t (0, 0)) (W.alloc (.cells c t)) := by
  have hb : Below W.heap.size W (W.alloc (.cells c t)) := (Below.refl _ _).alloc (Nat.le_refl _) _
  have h' := h.below hb
  have hP := h.st.lt
  have hR := h.swap.st.lt
  obtain ⟨D, E, h1, h2, h3, h4⟩ := h
  exact ⟨D, E, Raw.kept h1 (hb.block _ (Raw.lt h1)) (fun k e => hb.block _ (Raw.data_lt h1 e).2), Raw.kept h2 (hb.block _ (Raw.lt h2)) (fun k e => hb.block _ (Raw.data_lt h2 e).2), h3, h4.own (below_keeps hb) (fun _ h => h.elim),
    heap_alloc_new _ _, by omega, fun e => by have := (Raw.data_lt h1 e).2; omega, by omega, fun e => by have := (Raw.data_lt h2 e).2; omega⟩
theorem TwoP.below (h : TwoP w P high L R hr M O ob W) (hb : Below W.heap.size W W') : TwoP w P high L R hr M O ob W' := by
  obtain ⟨D, E, h1, h2, h3, h4, h5⟩ := h
  exact ⟨D, E, Raw.kept h1 (hb.block _ (Raw.lt h1)) (fun k e => hb.block _ (Raw.data_lt h1 e).2), Raw.kept h2 (hb.block _ (Raw.lt h2)) (fun k e => hb.block _ (Raw.data_lt h2 e).2), h3, h4.own (below_keeps hb) (fun _ h => h.elim),
    (hb.block _ (lt_of_block h5.1)).trans h5.1, h5.2⟩
theorem TwoP.drewN (h : TwoP w P high L R hr M O ob W) (n : Nat) : TwoP w P high L R hr M O ob (W.drewN n) := h.below ⟨rfl, rfl, rfl, Nat.le_refl _, fun _ _ => rfl⟩

theorem TwoP.step {D E : Option Nat} (h1 : Wr W w.heap.size P D high L) (h2 : Wr W w.heap.size R E hr M) (h3 : P ≠ R ∧ D ≠ some R ∧ E ≠ some P ∧ ∀ k, D = some k → E ≠ some k) (h4 : Keeps (fun _ => False) w W) (h5 : W.heap[O]? = some ob ∧ O ≠ P ∧ D ≠ some O ∧ O ≠ R ∧ E ≠ some O)
    (ht : Then W w.heap.size P D high L' W') : TwoP w P high L' R hr M O ob W' := by
  obtain ⟨D', q1, q2, q3⟩ := ht
  obtain ⟨a, b, c, d⟩ := h3
  obtain ⟨p, q, r, s, t⟩ := h5
  have hO := lt_of_block p
  have hR := Raw.lt h2
  refine ⟨D', E, q1, Raw.keeps h2 q2 ?_ ?_, ⟨a, ?_, c, ?_⟩, h4.own q2 ?_, (q2.block O hO ?_).trans p, q, ?_, s, t⟩
  · rintro (e | e)
    · exact a e.symm
    · exact b e.symm
  · rintro k ek (e | e)
    · exact c (ek.trans (by rw [e]))
    · exact d k e.symm ek
  · rcases q3 with e | ⟨k, e, hk⟩
    · rw [e]; exact b
    · rw [e]; simp; omega
  · intro k ek
    rcases q3 with e | ⟨k', e, hk⟩
    · exact d k (e ▸ ek)
    · intro e2
      have := (Raw.data_lt h2 e2).2
      rw [e] at ek
      simp only [Option.some.injEq] at ek
      omega
  · rintro i (e | e)
    · rw [e]; exact h1.at_
    · exact (Raw.data_lt h1 e.symm).1
  · rintro (e | e)
    · exact q e
    · exact r e.symm
  · rcases q3 with e | ⟨k, e, hk⟩
    · rw [e]; exact r
    · rw [e]; simp; omega

theorem put_twoP (h : TwoP w P high L R hr M O ob W) (hl : L.length ≤ 16777216) (v n : Int) :
    Calls Try.prog 11 #[.pointer (some ⟨P, 0, none⟩), .int .i64 v, .int .i64 n] W fun e W' => e = .returned (.bool (fits v n)) ∧ TwoP w P high (put high L v n) R hr M O ob W' := by
  obtain ⟨D, E, h1, h2, h3, h4, h5⟩ := h
  exact (put_any W _ P D high L h1 h4.size hl v n).mono (fun e W' ⟨he, ht⟩ => ⟨he, TwoP.step h1 h2 h3 h4 h5 ht⟩)
theorem new_two (h : St w P high L W) (hr : Bool) :
    Calls Try.prog 9 #[.bool hr] W fun e W' => e = .returned (.pointer (some ⟨W.heap.size, 0, none⟩)) ∧ Two w P high L W.heap.size hr [] W' := by
  refine (new_any W w.heap.size h.size hr).mono ?_
  rintro e W' ⟨he, hn, _, hk'⟩
  have hP := h.lt
  obtain ⟨D, h1, h2⟩ := h
  refine ⟨he, D, none, Raw.keeps h1 hk' (fun h => h) (fun _ _ h => h), hn, ⟨by omega, ?_, by simp, by simp⟩, h2.own hk' (fun _ h => h.elim)⟩
  intro e; have := (Raw.data_lt h1 e).2; omega
end Go.Proofs.Yteeapkbmlhlhjaa
