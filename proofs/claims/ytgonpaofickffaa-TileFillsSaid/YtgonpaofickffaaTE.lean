/- An arena and its planes: as plain data, and in memory. -/
import Derived.Test.YtgonpaofickffaaTD
namespace Go.Proofs.Ytgonpaofickffaa
open Go.RowKit Go.Maps
set_option linter.unusedVariables false

/-- A plane: its block, its table's, its sizes, its table. -/
structure Pl where
  pb : Nat
  mb : Nat
  W : Nat
  H : Nat
  T : Nat → Nat → Option Nat
  L : List (Nat × Nat)
/-- An arena, its planes, the tiles that planes have, where each lies, its pixels. -/
structure St where
  A : Nat
  cap : Nat
  ps : List Pl
  live : List Nat
  home : Nat → Nat × Nat
  pix : Nat → Nat → Nat
/-- How many planes have a tile. -/
def cnt (ps : List Pl) (h : Nat × Nat) (t : Nat) : Nat := ps.countP (fun p => p.T h.1 h.2 == some t)
def St.free (S : St) : Nat := S.cap - S.live.length

structure Rep (w : World) (S : St) : Prop where
  arena : w.heap[S.A]? = some (.cells #[.int .i64 (S.free : Int)] 59 (0, 0))
  room : S.live.length ≤ S.cap
  cap : S.cap ≤ 1048576
  plane : ∀ (k : Nat) p, S.ps[k]? = some p → PlaneAt w p.pb S.A p.W p.H p.mb ∧ Tab w p.mb p.T p.L ∧ p.W ≤ 32768 ∧ p.H ≤ 32768
  at_ : ∀ (k : Nat) p, S.ps[k]? = some p → ∀ i j t, p.T i j = some t → t ∈ S.live ∧ S.home t = (i, j) ∧ i * 16 < p.W ∧ j * 16 < p.H
  tile : ∀ t ∈ S.live, TileAt w t (cnt S.ps (S.home t) t) (S.pix t)
  used : ∀ t ∈ S.live, 0 < cnt S.ps (S.home t) t
  nd : S.live.Nodup
  apart : ∀ (a b : Nat) p q, S.ps[a]? = some p → S.ps[b]? = some q → p.mb = q.mb → a = b
  small : ∀ t ∈ S.live, ∀ k, S.pix t k ≤ 4294967295
  many : S.ps.length ≤ 1048576

/-- The blocks of it. -/
def Foot (S : St) (b : Nat) : Prop := b = S.A ∨ (∃ (k : Nat) (p : Pl), S.ps[k]? = some p ∧ (b = p.mb ∨ b = p.pb)) ∨ b ∈ S.live
theorem Rep.lt {w : World} {S : St} (h : Rep w S) {b : Nat} (hb : Foot S b) : b < w.heap.size := by
  rcases hb with rfl | ⟨k, p, hp, rfl | rfl⟩ | hb
  · exact lt_of_block h.arena
  · exact (h.plane k p hp).2.1.lt
  · exact (h.plane k p hp).1.lt
  · exact (h.tile b hb).lt
theorem Rep.keep {w w' : World} {S : St} (h : Rep w S) (hk : ∀ b, Foot S b → w'.heap[b]? = w.heap[b]?) : Rep w' S where
  arena := (hk _ (Or.inl rfl)).trans h.arena
  room := h.room
  cap := h.cap
  plane k p hp := by
    obtain ⟨h1, h2, h3⟩ := h.plane k p hp
    exact ⟨(hk _ (Or.inr (Or.inl ⟨k, p, hp, Or.inr rfl⟩))).trans h1, h2.keep (hk _ (Or.inr (Or.inl ⟨k, p, hp, Or.inl rfl⟩))), h3⟩
  at_ := h.at_
  tile t ht := (h.tile t ht).keep (hk _ (Or.inr (Or.inr ht)))
  used := h.used
  nd := h.nd
  apart := h.apart
  small := h.small
  many := h.many
theorem Rep.later {w w' : World} {S : St} (h : Rep w S) (hk : Keeps none' w w') : Rep w' S := h.keep (fun b hb => hk.later b (h.lt hb))
theorem Rep.drewN {w : World} {S : St} (h : Rep w S) (n : Nat) : Rep (w.drewN n) S := h.keep (fun b _ => rfl)
theorem Rep.kept {w w' : World} {S : St} {X : Nat → Prop} (h : Rep w S) (hk : Keeps X w w') (hX : ∀ b, Foot S b → ¬ X b) : Rep w' S := h.keep (fun b hb => hk.block b (h.lt hb) (hX b hb))

/-- Blocks of different kinds are different. -/
theorem Rep.tile_ne {w : World} {S : St} (h : Rep w S) {t : Nat} (ht : t ∈ S.live) : t ≠ S.A ∧ ∀ (k : Nat) p, S.ps[k]? = some p → t ≠ p.mb ∧ t ≠ p.pb := by
  obtain ⟨c, h1, h2, -⟩ := h.tile t ht
  refine ⟨fun e => ?_, fun k p hp => ⟨fun e => ?_, fun e => ?_⟩⟩
  · rw [e, h.arena] at h1
    cases h1
  · rw [e] at h1
    exact (h.plane k p hp).2.1.notCells h1
  · rw [e, (h.plane k p hp).1] at h1
    cases h1
theorem Rep.arena_ne {w : World} {S : St} (h : Rep w S) : ∀ (k : Nat) p, S.ps[k]? = some p → S.A ≠ p.mb ∧ S.A ≠ p.pb := by
  refine fun k p hp => ⟨fun e => ?_, fun e => ?_⟩
  · exact (h.plane k p hp).2.1.notCells (e ▸ h.arena)
  · have h1 := h.arena
    rw [e, (h.plane k p hp).1] at h1
    cases h1
theorem Rep.plane_ne {w : World} {S : St} (h : Rep w S) {k k' : Nat} {p p' : Pl} (hp : S.ps[k]? = some p) (hp' : S.ps[k']? = some p') : p.mb ≠ p'.pb := by
  intro e
  exact (h.plane k p hp).2.1.notCells (e ▸ (h.plane k' p' hp').1)

theorem cnt_set (ps : List Pl) (k : Nat) (p p' : Pl) (hk : ps[k]? = some p) (h : Nat × Nat) (t : Nat) :
    cnt (ps.set k p') h t + (if p.T h.1 h.2 = some t then 1 else 0) = cnt ps h t + (if p'.T h.1 h.2 = some t then 1 else 0) := by
  unfold cnt
  obtain ⟨hl, he⟩ := List.getElem?_eq_some_iff.1 hk
  rw [List.countP_set hl]
  have hpos : (if p.T h.1 h.2 = some t then 1 else 0) ≤ ps.countP (fun p => p.T h.1 h.2 == some t) := by
    split
    · rename_i h1
      exact List.countP_pos_iff.2 ⟨p, List.mem_of_getElem? hk, by simp [h1]⟩
    · exact Nat.zero_le _
  simp only [he, beq_iff_eq]
  split <;> split <;> simp_all <;> omega
theorem cnt_zero (ps : List Pl) (h : Nat × Nat) (t : Nat) (hn : ∀ (k : Nat) p, ps[k]? = some p → p.T h.1 h.2 ≠ some t) : cnt ps h t = 0 := by
  unfold cnt
  refine List.countP_eq_zero.2 (fun p hp => ?_)
  obtain ⟨k, hk⟩ := List.mem_iff_getElem?.1 hp
  simpa using hn k p hk

/-- A plane takes a tile for its own. -/
def St.own (S : St) (k : Nat) (p : Pl) (i j t' : Nat) (g : Nat → Nat) : St :=
  { S with ps := S.ps.set k { p with T := upd p.T i j t', L := if p.T i j = none then p.L ++ [(i, j)] else p.L }, live := S.live ++ [t'], home := fun t => if t = t' then (i, j) else S.home t, pix := fun t => if t = t' then g else S.pix t }
/-- Has a plane a tile there for itself? -/
def aloneP (S : St) (p : Pl) (i j : Nat) : Prop := ∃ t, p.T i j = some t ∧ cnt S.ps (i, j) t = 1

theorem Rep.own {w w' : World} {S : St} (h : Rep w S) {k : Nat} {p : Pl} (hk : S.ps[k]? = some p) {i j t' : Nat} (hi : i * 16 < p.W) (hj : j * 16 < p.H) {g : Nat → Nat} (hg : ∀ k, g k ≤ 4294967295)
    (hroom : S.live.length < S.cap) (hna : ¬ aloneP S p i j) (ht' : w.heap.size ≤ t')
    (hT : TileAt w' t' 1 g) (hTab : Tab w' p.mb (upd p.T i j t') (if p.T i j = none then p.L ++ [(i, j)] else p.L))
    (hA : w'.heap[S.A]? = some (.cells #[.int .i64 ((S.free - 1 : Nat) : Int)] 59 (0, 0)))
    (hold : ∀ t, p.T i j = some t → TileAt w' t (cnt S.ps (i, j) t - 1) (S.pix t))
    (hkeep : ∀ b, Foot S b → b ≠ S.A → b ≠ p.mb → some b ≠ p.T i j → w'.heap[b]? = w.heap[b]?) : Rep w' (S.own k p i j t' g) := by
  have hlive : ∀ t, t ∈ S.live → t ≠ t' := fun t ht e => by have := (h.tile t ht).lt; omega
  have hget : ∀ (a : Nat) q, (S.own k p i j t' g).ps[a]? = some q → (a = k ∧ q = { p with T := upd p.T i j t', L := if p.T i j = none then p.L ++ [(i, j)] else p.L }) ∨ (a ≠ k ∧ S.ps[a]? = some q) := by
    intro a q hq
    simp only [St.own] at hq
    rw [List.getElem?_set] at hq
    split at hq
    · rename_i e
      split at hq
      · cases hq; exact Or.inl ⟨e.symm, rfl⟩
      · cases hq
    · rename_i e
      exact Or.inr ⟨fun e' => e e'.symm, hq⟩
  have hnone : ∀ (a : Nat) q, S.ps[a]? = some q → ∀ i j, q.T i j ≠ some t' := fun a q hq i j e => hlive t' (h.at_ a q hq i j t' e).1 rfl
  have hcnt : ∀ t ∈ S.live, cnt (S.own k p i j t' g).ps (S.home t) t = if p.T i j = some t then cnt S.ps (i, j) t - 1 else cnt S.ps (S.home t) t := by
    intro t ht
    have hc := cnt_set S.ps k p { p with T := upd p.T i j t', L := if p.T i j = none then p.L ++ [(i, j)] else p.L } hk (S.home t) t
    simp only [St.own]
    by_cases e : S.home t = (i, j)
    · rw [e] at hc ⊢
      have e1 : upd p.T i j t' i j ≠ some t := by
        simp only [upd, and_self, if_true]
        intro e; cases e; exact hlive _ ht rfl
      rw [if_neg e1] at hc
      by_cases e2 : p.T i j = some t
      · rw [if_pos e2] at hc ⊢
        omega
      · rw [if_neg e2] at hc ⊢
        omega
    · have e1 : upd p.T i j t' (S.home t).1 (S.home t).2 = p.T (S.home t).1 (S.home t).2 := by
        unfold upd
        rw [if_neg (fun h => e (Prod.ext h.1 h.2))]
      simp only [e1] at hc
      have e2 : p.T i j ≠ some t := fun e2 => e (h.at_ k p hk i j t e2).2.1
      rw [if_neg e2]
      omega
  have hhome : ∀ t ∈ S.live, (S.own k p i j t' g).home t = S.home t := fun t ht => by simp only [St.own]; rw [if_neg (hlive t ht)]
  have hcnt' : cnt (S.own k p i j t' g).ps (i, j) t' = 1 := by
    have hc := cnt_set S.ps k p { p with T := upd p.T i j t', L := if p.T i j = none then p.L ++ [(i, j)] else p.L } hk (i, j) t'
    rw [if_neg (hnone k p hk i j), cnt_zero S.ps (i, j) t' (fun a q hq => hnone a q hq i j)] at hc
    simp only [upd, and_self, if_true] at hc
    simpa [St.own] using hc
  have hbk : ∀ t ∈ S.live, p.T i j ≠ some t → w'.heap[t]? = w.heap[t]? := fun t ht hne => hkeep t (Or.inr (Or.inr ht)) (h.tile_ne ht).1 ((h.tile_ne ht).2 k p hk).1 (fun e => hne e.symm)
  have hpT : ∀ b t, p.T i j = some t → b = t → ∀ (a : Nat) q, S.ps[a]? = some q → b ≠ q.mb ∧ b ≠ q.pb := fun b t e1 e2 a q hq => e2 ▸ (h.tile_ne (h.at_ k p hk i j t e1).1).2 a q hq
  constructor
  · simp only [St.own, St.free, List.length_append, List.length_singleton]
    rw [hA]
    simp only [St.free]
    rw [Nat.sub_sub]
  · simp only [St.own, List.length_append, List.length_singleton]; omega
  · exact h.cap
  · intro a q hq
    rcases hget a q hq with ⟨rfl, rfl⟩ | ⟨hne, hq'⟩
    · obtain ⟨h1, h2, h3⟩ := h.plane a p hk
      refine ⟨?_, hTab, h3⟩
      exact (hkeep p.pb (Or.inr (Or.inl ⟨a, p, hk, Or.inr rfl⟩)) (h.arena_ne a p hk).2.symm (h.plane_ne hk hk).symm (fun e => (hpT p.pb _ e.symm rfl a p hk).2 rfl)).trans h1
    · obtain ⟨h1, h2, h3⟩ := h.plane a q hq'
      refine ⟨?_, h2.keep ?_, h3⟩
      · exact (hkeep q.pb (Or.inr (Or.inl ⟨a, q, hq', Or.inr rfl⟩)) (h.arena_ne a q hq').2.symm (h.plane_ne hk hq').symm (fun e => (hpT q.pb _ e.symm rfl a q hq').2 rfl)).trans h1
      · exact hkeep q.mb (Or.inr (Or.inl ⟨a, q, hq', Or.inl rfl⟩)) (h.arena_ne a q hq').1.symm (fun e => hne (h.apart a k q p hq' hk e)) (fun e => (hpT q.mb _ e.symm rfl a q hq').1 rfl)
  · intro a q hq i1 j1 t1 e1
    rcases hget a q hq with ⟨rfl, rfl⟩ | ⟨hne, hq'⟩
    · simp only [upd] at e1
      split at e1
      · rename_i e2
        cases e1
        simp only [St.own, List.mem_append, List.mem_singleton, or_true, if_true, true_and, e2.1, e2.2]
        exact ⟨hi, hj⟩
      · obtain ⟨q1, q2, q3⟩ := h.at_ a p hk i1 j1 t1 e1
        exact ⟨by simp [St.own, q1], (hhome t1 q1).trans q2, q3⟩
    · obtain ⟨q1, q2, q3⟩ := h.at_ a q hq' i1 j1 t1 e1
      exact ⟨by simp [St.own, q1], (hhome t1 q1).trans q2, q3⟩
  · intro t ht
    simp only [St.own, List.mem_append, List.mem_singleton] at ht
    by_cases e : t = t'
    · subst e
      have e1 : (S.own k p i j t g).home t = (i, j) := by simp [St.own]
      have e2 : (S.own k p i j t g).pix t = g := by simp [St.own]
      rw [e1, e2, hcnt']
      exact hT
    · have htl := ht.resolve_right e
      have e2 : (S.own k p i j t' g).pix t = S.pix t := by simp [St.own, e]
      rw [hhome t htl, hcnt t htl, e2]
      by_cases e3 : p.T i j = some t
      · rw [if_pos e3]
        exact hold t e3
      · rw [if_neg e3]
        exact (h.tile t htl).keep (hbk t htl e3)
  · intro t ht
    simp only [St.own, List.mem_append, List.mem_singleton] at ht
    by_cases e : t = t'
    · subst e
      have e1 : (S.own k p i j t g).home t = (i, j) := by simp [St.own]
      rw [e1, hcnt']
      omega
    · have htl := ht.resolve_right e
      rw [hhome t htl, hcnt t htl]
      by_cases e3 : p.T i j = some t
      · rw [if_pos e3]
        have hu := h.used t htl
        rw [(h.at_ k p hk i j t e3).2.1] at hu
        have : cnt S.ps (i, j) t ≠ 1 := fun e4 => hna ⟨t, e3, e4⟩
        omega
      · rw [if_neg e3]
        exact h.used t htl
  · simp only [St.own]
    rw [List.nodup_append]
    exact ⟨h.nd, by simp, fun a ha b hb => by rw [List.mem_singleton] at hb; rw [hb]; exact hlive a ha⟩
  · intro a b q r hq hr hm
    rcases hget a q hq with ⟨rfl, rfl⟩ | ⟨hne, hq'⟩ <;> rcases hget b r hr with ⟨rfl, rfl⟩ | ⟨hne2, hr'⟩
    · rfl
    · exact h.apart _ _ p r hk hr' hm
    · exact h.apart _ _ q p hq' hk hm
    · exact h.apart _ _ q r hq' hr' hm
  · intro t ht k1
    simp only [St.own, List.mem_append, List.mem_singleton] at ht ⊢
    by_cases e : t = t'
    · rw [if_pos e]; exact hg k1
    · rw [if_neg e]; exact h.small t (ht.resolve_right e) k1
  · simp only [St.own, List.length_set]
    exact h.many
end Go.Proofs.Ytgonpaofickffaa
