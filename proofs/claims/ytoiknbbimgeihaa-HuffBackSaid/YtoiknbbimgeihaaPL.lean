/- Codes by lengths: each symbol's span of the rows of sixteen bits; the spans lie one behind the other. No program in it. -/
import Derived.WalkKit
namespace Go.Proofs.Ytoiknbbimgeihaa.Huff

/-- The symbols that have a code, by length, then by number. -/
def ofLen (l : List Nat) (n : Nat) : List Nat := (List.range l.length).filter (fun s => l.getD s 0 == n)
def ordered (l : List Nat) : Nat → List Nat
  | 0 => []
  | n + 1 => ordered l n ++ ofLen l (n + 1)
/-- How many rows of sixteen bits begin with a code of so many. -/
def room (l : List Nat) (s : Nat) : Nat := 2 ^ (16 - l.getD s 0)
def rooms (l : List Nat) (os : List Nat) : Nat := (os.map (room l)).sum
/-- Each symbol and where its span begins. -/
def spans (l : List Nat) (p : Nat) : List Nat → List (Nat × Nat)
  | [] => []
  | s :: os => (s, p) :: spans l (p + room l s) os

theorem mem_ofLen (l : List Nat) (n s : Nat) : s ∈ ofLen l n ↔ s < l.length ∧ l.getD s 0 = n := by
  simp [ofLen]
theorem mem_ordered (l : List Nat) (n s : Nat) : s ∈ ordered l n ↔ s < l.length ∧ 1 ≤ l.getD s 0 ∧ l.getD s 0 ≤ n := by
  induction n with
  | zero => simp only [ordered, List.not_mem_nil, false_iff]; omega
  | succ n ih =>
    rw [ordered, List.mem_append, ih, mem_ofLen]
    omega
theorem nodup_ordered (l : List Nat) (n : Nat) : (ordered l n).Nodup := by
  induction n with
  | zero => exact List.nodup_nil
  | succ n ih =>
    rw [ordered, List.nodup_append]
    refine ⟨ih, List.Pairwise.filter _ List.nodup_range, ?_⟩
    intro a ha b hb e
    subst e
    have h1 := (mem_ordered l n a).1 ha
    have h2 := (mem_ofLen l (n + 1) a).1 hb
    omega
/-- By length. -/
theorem ordered_lengths (l : List Nat) (n : Nat) : (ordered l n).Pairwise (fun s t => l.getD s 0 < l.getD t 0 ∨ (l.getD s 0 = l.getD t 0 ∧ s < t)) := by
  induction n with
  | zero => exact List.Pairwise.nil
  | succ n ih =>
    rw [ordered, List.pairwise_append]
    refine ⟨ih, ?_, ?_⟩
    · have h : (ofLen l (n + 1)).Pairwise (· < ·) := List.Pairwise.filter _ List.pairwise_lt_range
      refine h.imp_of_mem ?_
      intro a b ha hb hab
      have h1 := (mem_ofLen l (n + 1) a).1 ha
      have h2 := (mem_ofLen l (n + 1) b).1 hb
      exact Or.inr ⟨by omega, hab⟩
    · intro a ha b hb
      have h1 := (mem_ordered l n a).1 ha
      have h2 := (mem_ofLen l (n + 1) b).1 hb
      left
      omega

theorem rooms_nil (l : List Nat) : rooms l [] = 0 := rfl
theorem rooms_cons (l : List Nat) (s : Nat) (os : List Nat) : rooms l (s :: os) = room l s + rooms l os := rfl
theorem rooms_append (l : List Nat) (a b : List Nat) : rooms l (a ++ b) = rooms l a + rooms l b := by simp [rooms]
theorem room_pos (l : List Nat) (s : Nat) : 0 < room l s := Nat.two_pow_pos _

theorem spans_syms (l : List Nat) (p : Nat) (os : List Nat) : (spans l p os).map Prod.fst = os := by
  induction os generalizing p with
  | nil => rfl
  | cons s os ih => rw [spans, List.map_cons, ih]
theorem spans_append (l : List Nat) (p : Nat) (a b : List Nat) : spans l p (a ++ b) = spans l p a ++ spans l (p + rooms l a) b := by
  induction a generalizing p with
  | nil => simp [spans, rooms_nil]
  | cons s a ih => rw [List.cons_append, spans, spans, List.cons_append, ih, rooms_cons, Nat.add_assoc]
theorem spans_within (l : List Nat) (p : Nat) (os : List Nat) : ∀ x ∈ spans l p os, p ≤ x.2 ∧ x.2 + room l x.1 ≤ p + rooms l os := by
  induction os generalizing p with
  | nil => intro x hx; cases hx
  | cons s os ih =>
    intro x hx
    rw [rooms_cons]
    rcases List.mem_cons.1 hx with rfl | hx
    · simp only; omega
    · have := ih _ x hx
      omega
/-- One behind the other. -/
theorem spans_apart (l : List Nat) (p : Nat) (os : List Nat) : (spans l p os).Pairwise (fun x y => x.2 + room l x.1 ≤ y.2) := by
  induction os generalizing p with
  | nil => exact List.Pairwise.nil
  | cons s os ih =>
    rw [spans, List.pairwise_cons]
    refine ⟨?_, ih _⟩
    intro y hy
    exact (spans_within l _ os y hy).1
/-- With no gaps. -/
theorem spans_cover (l : List Nat) (p : Nat) (os : List Nat) (v : Nat) (h1 : p ≤ v) (h2 : v < p + rooms l os) : ∃ x ∈ spans l p os, x.2 ≤ v ∧ v < x.2 + room l x.1 := by
  induction os generalizing p with
  | nil => rw [rooms_nil] at h2; omega
  | cons s os ih =>
    rw [rooms_cons] at h2
    by_cases h : v < p + room l s
    · exact ⟨(s, p), List.mem_cons_self .., h1, h⟩
    · obtain ⟨x, hx, h3⟩ := ih (p + room l s) (by omega) (by omega)
      exact ⟨x, List.mem_cons_of_mem _ hx, h3⟩
/-- A span begins at a multiple of its room. -/
theorem spans_even (l : List Nat) (p : Nat) (os : List Nat) (hl : ∀ s ∈ os, l.getD s 0 ≤ 16) (hs : os.Pairwise (fun s t => l.getD s 0 ≤ l.getD t 0)) (hp : ∀ s ∈ os, room l s ∣ p) : ∀ x ∈ spans l p os, room l x.1 ∣ x.2 := by
  induction os generalizing p with
  | nil => intro x hx; cases hx
  | cons s os ih =>
    intro x hx
    obtain ⟨hs1, hs2⟩ := List.pairwise_cons.1 hs
    rcases List.mem_cons.1 hx with rfl | hx
    · exact hp _ (List.mem_cons_self ..)
    · refine ih (p + room l s) (fun t ht => hl t (List.mem_cons_of_mem _ ht)) hs2 ?_ x hx
      intro t ht
      refine Nat.dvd_add (hp t (List.mem_cons_of_mem _ ht)) ?_
      exact Nat.pow_dvd_pow 2 (by have := hs1 t ht; omega)

/-- All spans of lengths. -/
def all (l : List Nat) : List (Nat × Nat) := spans l 0 (ordered l 16)
theorem all_even (l : List Nat) : ∀ x ∈ all l, room l x.1 ∣ x.2 := by
  refine spans_even l 0 _ (fun s hs => ((mem_ordered l 16 s).1 hs).2.2) ((ordered_lengths l 16).imp (fun h => by omega)) (fun s _ => Nat.dvd_zero _)
theorem all_sym (l : List Nat) (s : Nat) (h1 : s < l.length) (h2 : 1 ≤ l.getD s 0) (h3 : l.getD s 0 ≤ 16) : ∃ p, (s, p) ∈ all l := by
  have h : s ∈ (all l).map Prod.fst := by
    rw [all, spans_syms]
    exact (mem_ordered l 16 s).2 ⟨h1, h2, h3⟩
  obtain ⟨x, hx, rfl⟩ := List.mem_map.1 h
  exact ⟨x.2, hx⟩
theorem all_one (l : List Nat) (s p q : Nat) (hp : (s, p) ∈ all l) (hq : (s, q) ∈ all l) : p = q := by
  have hn : ((all l).map Prod.fst).Nodup := by rw [all, spans_syms]; exact nodup_ordered l 16
  have key : ∀ L : List (Nat × Nat), (L.map Prod.fst).Nodup → (s, p) ∈ L → (s, q) ∈ L → p = q := by
    intro L hL h1 h2
    induction L with
    | nil => cases h1
    | cons x L ih =>
      rw [List.map_cons, List.nodup_cons] at hL
      rcases List.mem_cons.1 h1 with e1 | h1 <;> rcases List.mem_cons.1 h2 with e2 | h2
      · rw [← e1] at e2; exact (Prod.mk.inj e2).2.symm
      · exfalso; exact hL.1 (by rw [← e1]; exact List.mem_map.2 ⟨_, h2, rfl⟩)
      · exfalso; exact hL.1 (by rw [← e2]; exact List.mem_map.2 ⟨_, h1, rfl⟩)
      · exact ih hL.2 h1 h2
  exact key _ hn hp hq
/-- Two symbols' spans have no row in common. -/
theorem all_apart (l : List Nat) (s t p q v : Nat) (hp : (s, p) ∈ all l) (hq : (t, q) ∈ all l) (h1 : p ≤ v) (h2 : v < p + room l s) (h3 : q ≤ v) (h4 : v < q + room l t) : s = t := by
  have key : ∀ L : List (Nat × Nat), L.Pairwise (fun x y => x.2 + room l x.1 ≤ y.2) → (s, p) ∈ L → (t, q) ∈ L → s = t := by
    intro L hL m1 m2
    induction L with
    | nil => cases m1
    | cons x L ih =>
      obtain ⟨hx, hL'⟩ := List.pairwise_cons.1 hL
      rcases List.mem_cons.1 m1 with e1 | m1 <;> rcases List.mem_cons.1 m2 with e2 | m2
      · rw [← e1] at e2; exact (Prod.mk.inj e2).1.symm
      · have := hx _ m2
        rw [← e1] at this
        simp only at this
        omega
      · have := hx _ m1
        rw [← e2] at this
        simp only at this
        omega
      · exact ih hL' m1 m2
  exact key _ (spans_apart l 0 _) hp hq
theorem all_within (l : List Nat) (x : Nat × Nat) (h : x ∈ all l) : x.2 + room l x.1 ≤ rooms l (ordered l 16) := by
  have := (spans_within l 0 _ x h).2
  omega
theorem all_cover (l : List Nat) (v : Nat) (h : v < rooms l (ordered l 16)) : ∃ x ∈ all l, x.2 ≤ v ∧ v < x.2 + room l x.1 := spans_cover l 0 _ v (Nat.zero_le _) (by omega)

/-- The weight is the room of all symbols. -/
def weight (l : List Nat) : Nat := ((List.range l.length).map (fun s => if l.getD s 0 = 0 then 0 else room l s)).sum
theorem rooms_ofLen (l : List Nat) (n : Nat) : rooms l (ofLen l n) = ((List.range l.length).map (fun s => if l.getD s 0 = n then room l s else 0)).sum := by
  unfold rooms ofLen
  generalize List.range l.length = L
  induction L with
  | nil => rfl
  | cons s L ih =>
    by_cases h : l.getD s 0 = n
    · rw [List.filter_cons_of_pos (by rw [h]; exact beq_self_eq_true n), List.map_cons, List.sum_cons, List.map_cons, List.sum_cons, if_pos h, ih]
    · rw [List.filter_cons_of_neg (by simpa using h), List.map_cons, List.sum_cons, if_neg h, ih, Nat.zero_add]
theorem rooms_ordered (l : List Nat) (n : Nat) : rooms l (ordered l n) = ((List.range l.length).map (fun s => if 1 ≤ l.getD s 0 ∧ l.getD s 0 ≤ n then room l s else 0)).sum := by
  induction n with
  | zero =>
    rw [ordered, rooms_nil]
    have : ∀ L : List Nat, (L.map (fun s => if 1 ≤ l.getD s 0 ∧ l.getD s 0 ≤ 0 then room l s else 0)).sum = 0 := by
      intro L
      induction L with
      | nil => rfl
      | cons s L ih => rw [List.map_cons, List.sum_cons, ih, if_neg (by omega)]
    exact (this _).symm
  | succ n ih =>
    rw [ordered, rooms_append, ih, rooms_ofLen]
    generalize List.range l.length = L
    induction L with
    | nil => rfl
    | cons s L ihL =>
      simp only [List.map_cons, List.sum_cons]
      by_cases h1 : l.getD s 0 = n + 1
      · rw [if_neg (by omega), if_pos h1, if_pos (by omega)]
        omega
      · by_cases h2 : 1 ≤ l.getD s 0 ∧ l.getD s 0 ≤ n
        · rw [if_pos h2, if_neg h1, if_pos (by omega)]
          omega
        · rw [if_neg h2, if_neg h1, if_neg (by omega)]
          omega
theorem weight_eq (l : List Nat) (h : ∀ s, l.getD s 0 ≤ 16) : weight l = rooms l (ordered l 16) := by
  rw [rooms_ordered]
  unfold weight
  congr 1
  refine List.map_congr_left ?_
  intro s _
  by_cases h0 : l.getD s 0 = 0
  · rw [if_pos h0, if_neg (by omega)]
  · rw [if_neg h0, if_pos ⟨by omega, h s⟩]

/-- A code, of its span's first bits. -/
def codeOf (l : List Nat) (x : Nat × Nat) : Nat := x.2 / room l x.1
theorem code_span (l : List Nat) (x : Nat × Nat) (h : x ∈ all l) : codeOf l x * room l x.1 = x.2 := Nat.div_mul_cancel (all_even l x h)
/-- Which rows begin with a code: those of its span. -/
theorem code_begins (l : List Nat) (x : Nat × Nat) (h : x ∈ all l) (v : Nat) : v / room l x.1 = codeOf l x ↔ x.2 ≤ v ∧ v < x.2 + room l x.1 := by
  have e := code_span l x h
  have hp := room_pos l x.1
  constructor
  · intro hv
    have h1 : codeOf l x * room l x.1 ≤ v := by rw [← hv]; exact Nat.div_mul_le_self _ _
    have h2 : v < (codeOf l x + 1) * room l x.1 := by rw [← hv, Nat.mul_comm]; exact Nat.lt_mul_div_succ _ hp
    rw [Nat.add_mul, Nat.one_mul] at h2
    omega
  · rintro ⟨h1, h2⟩
    refine Nat.div_eq_of_lt_le ?_ ?_
    · omega
    · rw [Nat.add_mul, Nat.one_mul]; omega
theorem code_lt (l : List Nat) (x : Nat × Nat) (h : x ∈ all l) (hl : l.getD x.1 0 ≤ 16) (hw : rooms l (ordered l 16) ≤ 65536) : codeOf l x < 2 ^ l.getD x.1 0 := by
  have h1 := all_within l x h
  have e := code_span l x h
  have hp := room_pos l x.1
  have e2 : 2 ^ l.getD x.1 0 * room l x.1 = 65536 := by
    unfold room
    rw [← Nat.pow_add, show l.getD x.1 0 + (16 - l.getD x.1 0) = 16 by omega]
  refine Nat.lt_of_mul_lt_mul_right (a := room l x.1) ?_
  rw [e, e2]
  omega
end Go.Proofs.Ytoiknbbimgeihaa.Huff
