/- The program's reel and the document's side by side. -/
import Derived.Test.YtccfjpjhkaicgaaQ
namespace Go.Proofs.Ytccfjpjhkaicgaa
open Go.RowKit

/-- Both reels, which began at w; and a block O of the law's own that neither of them reaches. -/
def BothP (w : World) (R : Nat) (m : M) (T : Nat) (mt : M) (O : Nat) (ob : Obj) (W : World) : Prop :=
  ∃ D E, Reel W w.heap.size R D m ∧ Twin W w.heap.size T E mt ∧ R ≠ T ∧ D ≠ some T ∧ E ≠ some R ∧ (∀ k, D = some k → E ≠ some k) ∧ Keeps (fun _ => False) w W ∧
    (W.heap[O]? = some ob ∧ O ≠ R ∧ O ≠ T ∧ D ≠ some O ∧ E ≠ some O)

/-- Both reels, which began at w. -/
def Both (w : World) (R : Nat) (m : M) (T : Nat) (mt : M) (W : World) : Prop :=
  ∃ D E, Reel W w.heap.size R D m ∧ Twin W w.heap.size T E mt ∧ R ≠ T ∧ D ≠ some T ∧ E ≠ some R ∧ (∀ k, D = some k → E ≠ some k) ∧ Keeps (fun _ => False) w W

variable {w W W' : World} {R T O : Nat} {ob : Obj} {m mt m' mt' : M} {D E D' E' : Option Nat}

theorem BothP.both (h : BothP w R m T mt O ob W) : Both w R m T mt W := by
  obtain ⟨D, E, h1, h2, h3, h4, h5, h6, h7, h8⟩ := h
  exact ⟨D, E, h1, h2, h3, h4, h5, h6, h7⟩
theorem Both.keeps (h : Both w R m T mt W) : Keeps (fun _ => False) w W := by
  obtain ⟨D, E, h1, h2, h3, h4, h5, h6, h7⟩ := h
  exact h7
theorem Both.st (h : Both w R m T mt W) : St w R m W := by
  obtain ⟨D, E, h1, h2, h3, h4, h5, h6, h7⟩ := h
  exact ⟨D, h1, h7⟩
theorem Both.size (h : Both w R m T mt W) : w.heap.size ≤ W.heap.size := h.keeps.size
theorem Both.src (h : Both w R m T mt W) {a : Option Addr} {n : Nat} {ys : List Int} (hs : Src w a n ys) : Src W a n ys := hs.later (fun k hk => h.keeps.block k hk (fun h => h))
theorem BothP.pin (h : BothP w R m T mt O ob W) : W.heap[O]? = some ob := by
  obtain ⟨D, E, h1, h2, h3, h4, h5, h6, h7, h8⟩ := h
  exact h8.1

theorem BothP.below (h : BothP w R m T mt O ob W) (hb : Below W.heap.size W W') : BothP w R m T mt O ob W' := by
  obtain ⟨D, E, h1, h2, h3, h4, h5, h6, h7, h8⟩ := h
  exact ⟨D, E, h1.kept (hb.block _ h1.lt) (fun k e => hb.block _ (h1.data_lt e).2), h2.kept hb.size (hb.block _ h2.lt) (fun k e => hb.block _ (h2.own k e).2), h3, h4, h5, h6, h7.own (below_keeps hb) (fun _ h => h.elim),
    (hb.block _ (lt_of_block h8.1)).trans h8.1, h8.2⟩
theorem BothP.drewN (h : BothP w R m T mt O ob W) (n : Nat) : BothP w R m T mt O ob (W.drewN n) :=
  h.below ⟨rfl, rfl, rfl, Nat.le_refl _, fun _ _ => rfl⟩
theorem BothP.drew (h : BothP w R m T mt O ob W) : BothP w R m T mt O ob W.drew :=
  h.below ⟨rfl, rfl, rfl, Nat.le_refl _, fun _ _ => rfl⟩
/-- A new block. -/
theorem Both.alloc (h : Both w R m T mt W) (c : Array Value) (t : TypeId) : BothP w R m T mt W.heap.size (.cells c t (0, 0)) (W.alloc (.cells c t)) := by
  obtain ⟨D, E, h1, h2, h3, h4, h5, h6, h7⟩ := h
  have hb : Below W.heap.size W (W.alloc (.cells c t)) := (Below.refl _ _).alloc (Nat.le_refl _) _
  have e1 := h1.lt
  have e2 := h2.lt
  exact ⟨D, E, h1.kept (hb.block _ h1.lt) (fun k e => hb.block _ (h1.data_lt e).2), h2.kept hb.size (hb.block _ h2.lt) (fun k e => hb.block _ (h2.own k e).2), h3, h4, h5, h6, h7.own (below_keeps hb) (fun _ h => h.elim),
    heap_alloc_new _ _, by omega, by omega, fun e => by have := (h1.data_lt e).2; omega, fun e => by have := (h2.own _ e).2; omega⟩

/-- The program's reel has gone on. -/
theorem BothP.reel (h1 : Reel W w.heap.size R D m) (h2 : Twin W w.heap.size T E mt) (h3 : R ≠ T) (h4 : D ≠ some T) (h5 : E ≠ some R) (h6 : ∀ k, D = some k → E ≠ some k) (h7 : Keeps (fun _ => False) w W) (h8 : W.heap[O]? = some ob ∧ O ≠ R ∧ O ≠ T ∧ D ≠ some O ∧ E ≠ some O)
    (hr : Reel W' w.heap.size R D' m') (hk : Keeps (fun k => k = R ∨ some k = D) W W') (hD : D' = D ∨ ∃ k, D' = some k ∧ W.heap.size ≤ k) : BothP w R m' T mt O ob W' := by
  have h2' : Twin W' w.heap.size T E mt := h2.keeps hk (by
      rintro (e | e)
      · exact h3 e.symm
      · exact h4 e.symm) (by
      rintro k ek (e | e)
      · exact h5 (ek.trans (by rw [e]))
      · exact h6 k e.symm ek)
  have hO := lt_of_block h8.1
  refine ⟨D', E, hr, h2', h3, ?_, h5, ?_, h7.own hk ?_, ?_, h8.2.1, h8.2.2.1, ?_, h8.2.2.2.2⟩
  · rcases hD with e | ⟨k, e, hk⟩
    · rw [e]; exact h4
    · rw [e]; have := h2.lt; simp; omega
  · intro k ek
    rcases hD with e | ⟨k', e, hk⟩
    · exact h6 k (e ▸ ek)
    · intro e2
      have := (h2.own k e2).2
      rw [e] at ek
      simp only [Option.some.injEq] at ek
      omega
  · rintro i (e | e)
    · rw [e]; exact h1.at_
    · exact (h1.data_lt e.symm).1
  · refine (hk.block O hO ?_).trans h8.1
    rintro (e | e)
    · exact h8.2.1 e
    · exact h8.2.2.2.1 e.symm
  · rcases hD with e | ⟨k, e, hk⟩
    · rw [e]; exact h8.2.2.2.1
    · rw [e]; simp; omega

/-- The document's reel has gone on. -/
theorem BothP.twin (h1 : Reel W w.heap.size R D m) (h2 : Twin W w.heap.size T E mt) (h3 : R ≠ T) (h4 : D ≠ some T) (h5 : E ≠ some R) (h6 : ∀ k, D = some k → E ≠ some k) (h7 : Keeps (fun _ => False) w W) (h8 : W.heap[O]? = some ob ∧ O ≠ R ∧ O ≠ T ∧ D ≠ some O ∧ E ≠ some O)
    (hr : Twin W' w.heap.size T E' mt') (hk : Keeps (fun k => k = T) W W') (hE : E' = E ∨ ∃ k, E' = some k ∧ W.heap.size ≤ k) : BothP w R m T mt' O ob W' := by
  have h1' : Reel W' w.heap.size R D m := h1.keeps hk h3 (fun k ek e => h4 (by rw [ek, e]))
  have hO := lt_of_block h8.1
  refine ⟨D, E', h1', hr, h3, h4, ?_, ?_, h7.own hk (fun i e => by rw [e]; exact h2.at_), (hk.block O hO h8.2.2.1).trans h8.1, h8.2.1, h8.2.2.1, h8.2.2.2.1, ?_⟩
  · rcases hE with e | ⟨k, e, hk⟩
    · rw [e]; exact h5
    · rw [e]; have := h1.lt; simp; omega
  · intro k ek
    rcases hE with e | ⟨k', e, hk⟩
    · rw [e]; exact h6 k ek
    · intro e2
      have := (h1.data_lt ek).2
      rw [e] at e2
      simp only [Option.some.injEq] at e2
      omega
  · rcases hE with e | ⟨k, e, hk⟩
    · rw [e]; exact h8.2.2.2.2
    · rw [e]; simp; omega

theorem append_b (h : BothP w R m T mt O ob W) {a : Option Addr} {n c : Nat} {ys : List Int} (hs : Src W a n ys) (hf : Fits a n c) :
    Calls Try.prog 18 #[.pointer (some ⟨R, 0, none⟩), .slice a n c] W fun e W' => e = .returned (.int .i64 (m.append ys).1) ∧ BothP w R (m.append ys).2 T mt O ob W' := by
  obtain ⟨D, E, h1, h2, h3, h4, h5, h6, h7, h8⟩ := h
  exact (append_all W _ R D m h1 h7.size a n c ys hs hf).mono (fun e W' ⟨he, D', hr, hk, hD⟩ => ⟨he, BothP.reel h1 h2 h3 h4 h5 h6 h7 h8 hr hk hD⟩)
theorem sync_b (h : BothP w R m T mt O ob W) :
    Calls Try.prog 19 #[.pointer (some ⟨R, 0, none⟩)] W fun e W' => e = .returned (.int .i64 m.sync.1) ∧ BothP w R m.sync.2 T mt O ob W' := by
  obtain ⟨D, E, h1, h2, h3, h4, h5, h6, h7, h8⟩ := h
  exact (sync_any W _ R D m h1).mono (fun e W' ⟨he, D', hr, hk, hD⟩ => ⟨he, BothP.reel h1 h2 h3 h4 h5 h6 h7 h8 hr hk hD⟩)
theorem cut_b (h : BothP w R m T mt O ob W) (n : Int) :
    Calls Try.prog 21 #[.pointer (some ⟨R, 0, none⟩), .int .i64 n] W fun e W' => e = .returned (.int .i64 (m.cut n).1) ∧ BothP w R (m.cut n).2 T mt O ob W' := by
  obtain ⟨D, E, h1, h2, h3, h4, h5, h6, h7, h8⟩ := h
  exact (cut_any W _ R D m h1 n).mono (fun e W' ⟨he, D', hr, hk, hD⟩ => ⟨he, BothP.reel h1 h2 h3 h4 h5 h6 h7 h8 hr hk hD⟩)
theorem arm_b (h : BothP w R m T mt O ob W) (n : Int) (hn : n ≤ 9223372036854775807) :
    Calls Try.prog 20 #[.pointer (some ⟨R, 0, none⟩), .int .i64 n] W fun e W' => e = .returned (.tuple #[]) ∧ BothP w R (m.arm n) T mt O ob W' := by
  obtain ⟨D, E, h1, h2, h3, h4, h5, h6, h7, h8⟩ := h
  exact (arm_any W _ R D m h1 n hn).mono (fun e W' ⟨he, hr, hk⟩ => ⟨he, BothP.reel h1 h2 h3 h4 h5 h6 h7 h8 hr (hk.mono (fun _ _ e => Or.inl e)) (Or.inl rfl)⟩)
theorem crash_b (h : BothP w R m T mt O ob W) (keep : Int) {a : Option Addr} {n c : Nat} {gs : List Int} (hs : Src W a n gs) (hf : Fits a n c) (ha : 0 < n → ∀ ad, a = some ad → ad.block < w.heap.size) :
    Calls Try.prog 15 #[.pointer (some ⟨R, 0, none⟩), .int .i64 keep, .slice a n c] W fun e W' => e = .returned (.tuple #[]) ∧ BothP w R (m.crash keep gs) T mt O ob W' := by
  obtain ⟨D, E, h1, h2, h3, h4, h5, h6, h7, h8⟩ := h
  refine (crash_any W _ R D m h1 keep a n c gs hs ?_ hf.1 hf.2.1 hf.2.2).mono (fun e W' ⟨he, hr, hk⟩ => ⟨he, BothP.reel h1 h2 h3 h4 h5 h6 h7 h8 hr hk (Or.inl rfl)⟩)
  intro hp ad e
  have := ha hp ad e
  refine ⟨fun e2 => ?_, fun e2 => ?_⟩
  · have := (h1.data_lt e2.symm).1; omega
  · have := h1.at_; omega
theorem goes_b (h : BothP w R m T mt O ob W) (hd : mt.down = false) :
    Calls Try.prog 22 #[.pointer (some ⟨T, 0, none⟩)] W fun e W' => e = .returned (.bool (decide (mt.left ≠ 0))) ∧ BothP w R m T mt.spend.2 O ob W' := by
  obtain ⟨D, E, h1, h2, h3, h4, h5, h6, h7, h8⟩ := h
  exact (goes_any W _ T E mt h2 hd).mono (fun e W' ⟨he, hr, hk⟩ => ⟨he, BothP.twin h1 h2 h3 h4 h5 h6 h7 h8 hr hk (Or.inl rfl)⟩)
theorem twinCrash_b (h : BothP w R m T mt O ob W) (keep : Int) {a : Option Addr} {n c : Nat} {gs : List Int} (hs : Src W a n gs) (hf : Fits a n c) (hk0 : -9223372036854775808 ≤ keep) (hk1 : keep ≤ 9223372036854775807) :
    Calls Try.prog 23 #[.pointer (some ⟨T, 0, none⟩), .int .i64 keep, .slice a n c] W fun e W' => e = .returned (.tuple #[]) ∧ BothP w R m T (mt.crash keep gs) O ob W' := by
  obtain ⟨D, E, h1, h2, h3, h4, h5, h6, h7, h8⟩ := h
  exact (twinCrash_any W _ T E mt h2 h7.size keep a n c gs hs hf hk0 hk1).mono (fun e W' ⟨he, k, hr, hk, hE⟩ => ⟨he, BothP.twin h1 h2 h3 h4 h5 h6 h7 h8 hr hk (Or.inr ⟨k, rfl, hE⟩)⟩)

/-- The document's 'safe' set. -/
theorem BothP.safe_set {s : Int} (h : BothP w R m T mt O ob W) (ok : M.Ok { mt with safe := s }) : BothP w R m T { mt with safe := s } O ob (W.setCell ⟨T, 2, none⟩ (.int .i64 s)) := by
  obtain ⟨D, E, h1, h2, h3, h4, h5, h6, h7, h8⟩ := h
  exact BothP.twin h1 h2 h3 h4 h5 h6 h7 h8 (h2.set (m' := { mt with safe := s }) (i := 2) (u := .int .i64 s) ok rfl id (by intro c l hl; exact ⟨hl, by simp⟩)) (Keeps.one _ _ _ _) (Or.inl rfl)
/-- The document's count set. -/
theorem BothP.arm_set {n : Int} (h : BothP w R m T mt O ob W) (ok : M.Ok (mt.arm n)) : BothP w R m T (mt.arm n) O ob ((W.setCell ⟨T, 4, none⟩ (.bool (decide (0 ≤ n)))).setCell ⟨T, 3, none⟩ (.int .i64 n)) := by
  obtain ⟨D, E, h1, h2, h3, h4, h5, h6, h7, h8⟩ := h
  obtain ⟨c, l, hb, hl, hs, hf⟩ := h2.holds
  have ne : ∀ ad, headOf E = some ad → ad.block ≠ T := by
    intro ad e
    cases E with
    | none => cases e
    | some k =>
      cases e
      intro e2
      exact h2.apart (by rw [show k = T from e2])
  refine BothP.twin h1 h2 h3 h4 h5 h6 h7 h8 (E' := E) ⟨ok, h2.at_, ⟨c, n, ?_, ?_, ?_, hf⟩, fun k e => by simpa [World.setCell] using h2.own k e, h2.apart⟩ ((Keeps.one W T 4 _).trans (Keeps.one _ T 3 _) (fun _ _ e => e)) (Or.inl rfl)
  · rw [block_set (block_set hb _) _]
    have e1 : decide (0 ≤ max n (-1)) = decide (0 ≤ n) := by rw [decide_eq_decide]; omega
    simp [M.arm]
    exact e1.symm
  · simp only [M.arm]; omega
  · exact (hs.setOther (p := ⟨T, 4, none⟩) ne _).setOther (p := ⟨T, 3, none⟩) ne _
theorem arm_ok (h : m.Ok) (n : Int) (hn : n ≤ 9223372036854775807) : (m.arm n).Ok :=
  ⟨h.cap0, h.cap1, h.len, h.safe0, h.safe1, by simp only [M.arm]; omega, by simp only [M.arm]; omega, h.byte⟩

/-- What a step's operand is in memory: its bytes came in. -/
def Opnd (w : World) (a : Option Addr) (n c : Nat) (ys : List Int) : Prop := Src w a n ys ∧ Fits a n c ∧ n ≤ 1000

/-- Behind a step that both did alike. -/
def Stepped (w : World) (R T : Nat) (e : Ending) (W' : World) : Prop := e = .returned (.bool true) ∧ ∃ m', Both w R m' T m' W'

theorem Stepped.of (h : Both w R m T m W) : Stepped w R T (.returned (.bool true)) W := ⟨rfl, m, h⟩

/-- What is read of the document's reel. -/
theorem Both.cells (h : Both w R m T mt W) : ∃ E c l, W.heap[T]? = some (.cells #[.slice (headOf E) mt.xs.length c, .int .i64 mt.cap, .int .i64 mt.safe, .int .i64 l, .bool (decide (0 ≤ mt.left)), .bool mt.down] 29 (0, 0)) ∧ T < W.heap.size ∧ R < W.heap.size ∧
    (0 ≤ mt.left → l = mt.left) ∧ Src W (headOf E) mt.xs.length mt.xs ∧ Fits (headOf E) mt.xs.length c := by
  obtain ⟨D, E, h1, h2, h3, h4, h5, h6, h7⟩ := h
  obtain ⟨c, l, hb, hl, hs, hf⟩ := h2.holds
  exact ⟨E, c, l, hb, h2.lt, h1.lt, hl, hs, hf⟩
theorem Both.ok (h : Both w R m T mt W) : mt.Ok := by
  obtain ⟨D, E, h1, h2, h3, h4, h5, h6, h7⟩ := h
  exact h2.ok
end Go.Proofs.Ytccfjpjhkaicgaa
