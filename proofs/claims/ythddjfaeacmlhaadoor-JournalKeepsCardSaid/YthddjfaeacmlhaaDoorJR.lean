/- What a law's walk over a journal needs: clean forms of the calls, what stays. -/
import Derived.Test.YthddjfaeacmlhaaDoorJQ
namespace Go.Proofs.YthddjfaeacmlhaaDoor
open Go.RowKit Jr
set_option linter.unusedVariables false

theorem keeps_below {W W' : World} {S : Nat → Prop} {B : Nat} (h : Re.Keeps S W W') (hB : B ≤ W.heap.size) (hS : ∀ k, k < B → ¬ S k) : Below B W W' := h.below hB hS
theorem jappend_fell (W : World) (B R J : Nat) (D : Option Nat) (m m1 : Re.M) (sz : Nat) (h : Jn W B R J D m sz false) (hB : B ≤ W.heap.size) (a : Option Addr) (n c : Nat) (p : List Nat) (hp : Arg W a n c p) (hn : n ≤ 8388608) (hF : Fours W) (hsz : sz ≤ 16777216) (hr : m.append (ints (recd p)) = (11, m1)) :
    Calls Tryd.prog 18 #[.pointer (some ⟨J, 0, none⟩), .slice a n c] W (Did W B R J D 11 m1 sz true) := by
  have k := jappend_any W B R J D m sz h hB a n c p hp hn hF hsz
  rw [hr] at k
  exact k
theorem jappend_done (W : World) (B R J : Nat) (D : Option Nat) (m m1 : Re.M) (sz : Nat) (h : Jn W B R J D m sz false) (hB : B ≤ W.heap.size) (a : Option Addr) (n c : Nat) (p : List Nat) (hp : Arg W a n c p) (hn : n ≤ 8388608) (hF : Fours W) (hsz : sz ≤ 16777216) (hr : m.append (ints (recd p)) = (0, m1)) :
    Calls Tryd.prog 18 #[.pointer (some ⟨J, 0, none⟩), .slice a n c] W (Did W B R J D 0 m1 (sz + (n + 8)) false) := by
  have k := jappend_any W B R J D m sz h hB a n c p hp hn hF hsz
  rw [hr] at k
  exact k
theorem jappend_full (W : World) (B R J : Nat) (D : Option Nat) (m : Re.M) (sz : Nat) (h : Jn W B R J D m sz false) (hB : B ≤ W.heap.size) (a : Option Addr) (n c : Nat) (p : List Nat) (hp : Arg W a n c p) (hn : n ≤ 8388608) (hF : Fours W) (hsz : sz ≤ 16777216) (hr : m.append (ints (recd p)) = (10, m)) :
    Calls Tryd.prog 18 #[.pointer (some ⟨J, 0, none⟩), .slice a n c] W (Did W B R J D 10 m sz false) := by
  have k := jappend_any W B R J D m sz h hB a n c p hp hn hF hsz
  rw [hr] at k
  exact k
theorem jsync_fell (W : World) (B R J : Nat) (D : Option Nat) (m m1 : Re.M) (sz : Nat) (h : Jn W B R J D m sz false) (hr : m.sync = (11, m1)) :
    Calls Tryd.prog 19 #[.pointer (some ⟨J, 0, none⟩)] W (Did W B R J D 11 m1 sz true) := by
  have k := jsync_any W B R J D m sz h
  rw [hr] at k
  exact k
theorem jsync_done (W : World) (B R J : Nat) (D : Option Nat) (m m1 : Re.M) (sz : Nat) (h : Jn W B R J D m sz false) (hr : m.sync = (0, m1)) :
    Calls Tryd.prog 19 #[.pointer (some ⟨J, 0, none⟩)] W (Did W B R J D 0 m1 sz false) := by
  have k := jsync_any W B R J D m sz h
  rw [hr] at k
  exact k

/-- A list of the law's own beside a journal. -/
theorem own_carry {W W2 : World} {B R J sz n c : Nat} {D D2 : Option Nat} {m : Re.M} {cl : Bool} {aa : Option Addr} {ls : List (List Nat)} (hj : Jn W B R J D m sz cl)
    (ho : OwnL W B (fun q => q < B) aa n c ls) (hout : ∀ g, (Value.slice aa n c).ownBlock = some g → ¬ Hold R J D g) (hk : Re.Keeps (Hold R J D) W W2) (hd : D2 = D ∨ ∃ k, D2 = some k ∧ W.heap.size ≤ k) :
    OwnL W2 B (fun q => q < B) aa n c ls ∧ ∀ g, (Value.slice aa n c).ownBlock = some g → ¬ Hold R J D2 g := by
  have hlt : ∀ g, (Value.slice aa n c).ownBlock = some g → g < W.heap.size := by
    obtain ⟨_, vs, hv, _⟩ := ho
    exact fun g e => (hv.lt g e).2
  refine ⟨ho.keep (fun k hl h => hk.block k hl ?_), fun g e => ?_⟩
  · rcases h with h | h
    · rintro (e | e | e)
      · have := hj.reel.at_; omega
      · have := hj.at_; omega
      · have := (hj.reel.data_lt e.symm).1; omega
    · exact hout k h
  · rintro (e2 | e2 | e2)
    · exact hout g e (Or.inl e2)
    · exact hout g e (Or.inr (Or.inl e2))
    · rcases hd with e3 | ⟨k, e3, hk3⟩
      · exact hout g e (Or.inr (Or.inr (e2.trans e3)))
      · rw [e3] at e2; simp only [Option.some.injEq] at e2; have := hlt g e; omega
theorem Jn.hold_lt {W : World} {B R J sz : Nat} {D : Option Nat} {m : Re.M} {cl : Bool} (h : Jn W B R J D m sz cl) {k : Nat} (hk : Hold R J D k) : k < W.heap.size ∧ B ≤ k := by
  rcases hk with e | e | e
  · rw [e]; exact ⟨h.reel.lt, h.reel.at_⟩
  · rw [e]; exact ⟨h.lt, h.at_⟩
  · exact ⟨(h.reel.data_lt e.symm).2, (h.reel.data_lt e.symm).1⟩
/-- The journal when the list grows. -/
theorem Jn.grown {W W2 : World} {B R J sz : Nat} {D : Option Nat} {m : Re.M} {cl : Bool} {row : Option Nat} (h : Jn W B R J D m sz cl) (hg : W.grownBy W2 row) (hr : ∀ g, row = some g → ¬ Hold R J D g) : Jn W2 B R J D m sz cl := by
  refine ⟨h.reel.kept (hg.block _ h.reel.lt (fun e => hr R e.symm (Or.inl rfl))) (fun k e => hg.block _ (h.reel.data_lt e).2 (fun e2 => hr k e2.symm (Or.inr (Or.inr e.symm)))), ?_, h.at_, h.ne, h.nd⟩
  exact (hg.block _ h.lt (fun e => hr J e.symm (Or.inr (Or.inl rfl)))).trans h.blk
theorem keeps_none {W W1 W2 : World} {B R J sz : Nat} {D : Option Nat} {m : Re.M} {cl : Bool} (hB : W.heap.size = B) (h : Re.Keeps (fun _ => False) W W1) (hj : Jn W1 B R J D m sz cl) (hk : Re.Keeps (Hold R J D) W1 W2) : Re.Keeps (fun _ => False) W W2 :=
  h.trans hk (fun i hi s => by have := (hj.hold_lt s).2; omega)

/-! Calls of the reel alone. -/
theorem crash_plain (W : World) (B R : Nat) (D : Option Nat) (m : Re.M) (h : Re.Reel W B R D m) (keep : Int) :
    Calls Tryd.prog 20 #[.pointer (some ⟨R, 0, none⟩), .int .i64 keep, .slice none 0 0] W fun e W' => e = .returned (.tuple #[]) ∧ Re.Reel W' B R D (m.crash keep []) ∧ Re.Keeps (RD R D) W W' := by
  refine (Re.crash_any W B R D m h keep none 0 0 [] ⟨rfl, by simp, Or.inl ⟨rfl, rfl⟩⟩ (fun hp => absurd hp (Nat.lt_irrefl 0)) (Nat.le_refl _) (by unfold maxLen; omega) (fun _ => rfl)).mono ?_
  rintro e W' ⟨he, hr, hk⟩
  exact ⟨he, hr, hk⟩
/-- Open, whatever comes of it. -/
theorem open_some (W : World) (B R : Nat) (D : Option Nat) (m : Re.M) (h : Re.Reel W B R D m) (hB : B ≤ W.heap.size) (hd : m.down = false) (b : List Nat) (hs : Still m b) (hF : Fours W) (f : Int) (m' : Re.M) (hr : settleM m (scan b).2 = (f, m')) :
    Calls Tryd.prog 16 #[.pointer (some ⟨R, 0, none⟩)] W fun e W' => ∃ v D', e = .returned v ∧ Re.Reel W' B R D' m' ∧ Re.Keeps (RD R D) W W' ∧ (D' = D ∨ ∃ k, D' = some k ∧ W.heap.size ≤ k) := by
  by_cases h0 : f = 0
  · subst h0
    refine (open_ok W B R D m h hB hd b hs.xs hs.byte hF m' hr).mono ?_
    rintro e W' ⟨aa, c, J, D', he, hj, _, hk, hd', _⟩
    exact ⟨_, D', he, hj.reel, hk, hd'⟩
  · refine (open_bad W B R D m h hd b hs.xs hs.byte hF f m' hr h0).mono ?_
    rintro e W' ⟨D', he, hrr, hk, hd'⟩
    exact ⟨_, D', he, hrr, hk, hd'⟩
/-- A list of the law's own beside a reel. -/
theorem own_reel {W W2 : World} {B R n c : Nat} {D D2 : Option Nat} {m : Re.M} {aa : Option Addr} {ls : List (List Nat)} (hj : Re.Reel W B R D m)
    (ho : OwnL W B (fun q => q < B) aa n c ls) (hout : ∀ g, (Value.slice aa n c).ownBlock = some g → ¬ RD R D g) (hk : Re.Keeps (RD R D) W W2) (hd : D2 = D ∨ ∃ k, D2 = some k ∧ W.heap.size ≤ k) :
    OwnL W2 B (fun q => q < B) aa n c ls ∧ ∀ g, (Value.slice aa n c).ownBlock = some g → ¬ RD R D2 g := by
  have hlt : ∀ g, (Value.slice aa n c).ownBlock = some g → g < W.heap.size := by
    obtain ⟨_, vs, hv, _⟩ := ho
    exact fun g e => (hv.lt g e).2
  refine ⟨ho.keep (fun k hl h => hk.block k hl ?_), fun g e => ?_⟩
  · rcases h with h | h
    · rintro (e | e)
      · have := hj.at_; omega
      · have := (hj.data_lt e.symm).1; omega
    · exact hout k h
  · rintro (e2 | e2)
    · exact hout g e (Or.inl e2)
    · rcases hd with e3 | ⟨k, e3, hk3⟩
      · exact hout g e (Or.inr (e2.trans e3))
      · rw [e3] at e2; simp only [Option.some.injEq] at e2; have := hlt g e; omega
theorem keeps_reel {W W1 W2 : World} {B R : Nat} {D : Option Nat} {m : Re.M} (hB : W.heap.size = B) (h : Re.Keeps (fun _ => False) W W1) (hj : Re.Reel W1 B R D m) (hk : Re.Keeps (RD R D) W1 W2) : Re.Keeps (fun _ => False) W W2 :=
  h.trans hk (fun i hi s => by
    rcases s with e | e
    · have := hj.at_; omega
    · have := (hj.data_lt e.symm).1; omega)

/-! The model of an append and a sync. -/
theorem append_model {m : Re.M} {l p : List Nat} (hx : m.xs = ints l) (hd : m.down = false) (hc : ((l.length + (p.length + 8) : Nat) : Int) ≤ m.cap) :
    m.append (ints (recd p)) = Re.M.spend { m with xs := ints (l ++ recd p) } := by
  have hlen : m.xs.length = l.length := by rw [hx, ints_length]
  have hl2 : (ints (recd p)).length = p.length + 8 := by rw [ints_length, recd_length]
  simp only [Re.M.append, hd, Bool.false_eq_true, if_false]
  rw [if_neg (by rw [hlen, hl2]; omega), hx, ← ints_append]
/-- One record and a sync, of a reel that isn't down. -/
theorem step_model {m : Re.M} {ls : List (List Nat)} {i : Nat} {p : List Nat} (h : Up m ls i) (hp : ls[i]? = some p) (hc : (recs (ls.take i)).length + (p.length + 8) ≤ 20000) (hby : Byte (recs (ls.take (i + 1)))) :
    (∃ m1, m.append (ints (recd p)) = (11, m1) ∧ Fell m1 ls i) ∨ (∃ m1 m2, m.append (ints (recd p)) = (0, m1) ∧ m1.sync = (11, m2) ∧ Fell m2 ls i) ∨ (∃ m1 m2, m.append (ints (recd p)) = (0, m1) ∧ m1.sync = (0, m2) ∧ Up m2 ls (i + 1)) := by
  have ha := append_model (p := p) h.still.xs h.up (by rw [h.cap]; omega)
  have hl := (List.getElem?_eq_some_iff.1 hp).1
  have e1 : recs (ls.take i) ++ recd p = recs (ls.take (i + 1)) := by rw [take_snoc2 hp, recs_snoc]
  rw [e1] at ha
  obtain ⟨M, hM⟩ : ∃ M : Re.M, M = { m with xs := ints (recs (ls.take (i + 1))) } := ⟨_, rfl⟩
  rw [← hM] at ha
  have hMx : M.xs = ints (recs (ls.take (i + 1))) := by rw [hM]
  have hMs : M.safe = ((recs (ls.take i)).length : Nat) := by rw [hM]; exact h.still.safe
  have hMd : M.down = false := by rw [hM]; exact h.up
  have hMc : M.cap = 20000 := by rw [hM]; exact h.cap
  clear hM
  have hMl : M.xs.length = (recs (ls.take (i + 1))).length := by rw [hMx, ints_length]
  rcases spend_form M with ⟨hs, hl0⟩ | ⟨hs, hl0⟩ | ⟨hs, hl0⟩
  · exact Or.inl ⟨_, ha.trans hs, ⟨hMx, hMs, rfl, hMc, hl⟩⟩
  · right
    by_cases h1 : M.left - 1 = 0
    · refine Or.inl ⟨_, { M with left := M.left - 1, down := true }, ha.trans hs, ?_, ⟨hMx, hMs, rfl, hMc, hl⟩⟩
      simp only [Re.M.sync, hMd, Bool.false_eq_true, if_false]
      rw [if_pos h1]
      simp only [Re.M.spend, if_pos h1]
    · refine Or.inr ⟨_, { M with left := M.left - 1 - 1, safe := (M.xs.length : Nat) }, ha.trans hs, ?_, ⟨⟨hMx, hby, by rw [← hMl]⟩, hMd, hMc⟩⟩
      simp only [Re.M.sync, hMd, Bool.false_eq_true, if_false]
      rw [if_neg h1]
      simp only [Re.M.spend, if_neg h1, if_pos (show 0 < M.left - 1 by omega)]
  · right
    refine Or.inr ⟨_, { M with safe := (M.xs.length : Nat) }, ha.trans hs, ?_, ⟨⟨hMx, hby, by rw [← hMl]⟩, hMd, hMc⟩⟩
    simp only [Re.M.sync, hMd, Bool.false_eq_true, if_false]
    rw [if_neg (by omega), hs]
    simp only [hMd]
end Go.Proofs.YthddjfaeacmlhaaDoor
