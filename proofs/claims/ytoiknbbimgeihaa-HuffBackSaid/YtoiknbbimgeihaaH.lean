/- The law's own order of counts, falling: the contract of sorted. -/
import Derived.Test.YtoiknbbimgeihaaG
import Derived.Maps.AppendAt
import Derived.Laws.AppendOwnNone
import Derived.Deep.DeepMust
import Derived.OwnWalk
namespace Go.Proofs.Ytoiknbbimgeihaa
open Go.RowKit
set_option linter.unusedVariables false

/-- Put into a falling row, behind all that aren't smaller. -/
def insD (z : Int) (l : List Int) : List Int := l.takeWhile (fun x => decide (z ≤ x)) ++ z :: l.dropWhile (fun x => decide (z ≤ x))
/-- The counts above 0, falling. -/
def sortD : List Int → List Int → List Int
  | acc, [] => acc
  | acc, z :: zs => if z ≤ 0 then sortD acc zs else sortD (insD z acc) zs
def step1 (acc : List Int) (z : Int) : List Int := if z ≤ 0 then acc else insD z acc
theorem sortD_fold (acc zs : List Int) : sortD acc zs = zs.foldl step1 acc := by
  induction zs generalizing acc with
  | nil => rfl
  | cons z zs ih =>
    rw [sortD, List.foldl_cons, step1]
    split <;> exact ih _
def FallZ (l : List Int) : Prop := l.Pairwise (fun a b => b ≤ a)
theorem insD_perm (z : Int) (l : List Int) : (insD z l).Perm (z :: l) := by
  unfold insD
  have e := List.takeWhile_append_dropWhile (p := fun x => decide (z ≤ x)) (l := l)
  refine List.Perm.trans List.perm_middle ?_
  rw [e]
theorem insD_fall (z : Int) (l : List Int) (h : FallZ l) : FallZ (insD z l) := by
  induction l with
  | nil => simp [insD, FallZ]
  | cons x l ih =>
    obtain ⟨h1, h2⟩ := List.pairwise_cons.1 h
    by_cases hx : z ≤ x
    · have e : insD z (x :: l) = x :: insD z l := by simp [insD, hx]
      rw [e]
      refine List.pairwise_cons.2 ⟨fun y hy => ?_, ih h2⟩
      have := (insD_perm z l).mem_iff.1 hy
      rcases List.mem_cons.1 this with rfl | hm
      · exact hx
      · exact h1 y hm
    · have e : insD z (x :: l) = z :: x :: l := by simp [insD, hx]
      rw [e]
      refine List.pairwise_cons.2 ⟨fun y hy => ?_, h⟩
      rcases List.mem_cons.1 hy with rfl | hm
      · omega
      · have := h1 y hm; omega
theorem sortD_fall (acc zs : List Int) (h : FallZ acc) : FallZ (sortD acc zs) := by
  induction zs generalizing acc with
  | nil => exact h
  | cons z zs ih =>
    rw [sortD]
    split
    · exact ih _ h
    · exact ih _ (insD_fall z acc h)
theorem sortD_perm (acc zs : List Int) : (sortD acc zs).Perm (acc ++ zs.filter (fun z => decide (0 < z))) := by
  induction zs generalizing acc with
  | nil => simp [sortD]
  | cons z zs ih =>
    rw [sortD]
    by_cases hz : z ≤ 0
    · rw [if_pos hz, List.filter_cons_of_neg (by simp; omega)]
      exact ih acc
    · rw [if_neg hz, List.filter_cons_of_pos (by simp; omega)]
      refine (ih _).trans ?_
      refine (List.Perm.append_right _ (insD_perm z acc)).trans ?_
      rw [List.cons_append]
      exact List.perm_middle.symm

def vals (xs : List Int) : List Value := xs.map (Value.int .i64)
theorem vals_length (xs : List Int) : (vals xs).length = xs.length := by simp [vals]
theorem add_spot (b off j : Nat) : ((⟨b, off, none⟩ : Addr).add j) = ⟨b, off + j, none⟩ := by
  unfold Addr.add
  split
  · rename_i h; subst h; rfl
  · rfl
theorem own_kept {w w' : World} {B n : Nat} {v : Value} {xs : List Value} (h : w.ownsRow B 3 1 v n xs) (hk : ∀ k, v.ownBlock = some k → w'.heap[k]? = w.heap[k]?) : w'.ownsRow B 3 1 v n xs := by
  obtain ⟨h1, h2⟩ := h
  refine ⟨h1, ?_⟩
  rcases h2 with h2 | ⟨g, cap, cur, rfl, hg, hh, r⟩
  · exact Or.inl h2
  · exact Or.inr ⟨g, cap, cur, rfl, hg, (hk g rfl).trans hh, r⟩

/-- append of whole numbers to a row of the call's own, as one step. -/
theorem run_append_ints (w : World) (ty : TypeId) (base n : Nat) (v : Value) (xs : List Int) (hown : w.ownsRow base 3 1 v n (vals xs)) (ad : Option Addr) (m c : Nat) (ds : List Int) (hb : Ints w ad m ds) (hc : ad = none → m = 0 ∧ c = 0) (hn : n ≤ 33554432) (hm : m ≤ 33554432) (hbase : base ≤ w.heap.size) :
    ∃ aa cap w', (Builtin.append_ #[22, 22] ty #[v, .slice ad m c]).run Try.prog w = .ok (.slice aa (n + m) cap) w' ∧
      w'.ownsRow base 3 1 (.slice aa (n + m) cap) (n + m) (vals (xs ++ ds)) ∧ w.grownBy w' v.ownBlock ∧ ((Value.slice aa (n + m) cap).ownBlock = v.ownBlock ∨ (Value.slice aa (n + m) cap).ownBlock = some w.heap.size) := by
  obtain ⟨i0, hi, hz0, hz1, hz2⟩ := info_parts info3
  obtain ⟨hl, hby, hcell⟩ := hb
  cases ad with
  | none =>
    obtain ⟨rfl, rfl⟩ := hc rfl
    obtain rfl : ds = [] := List.eq_nil_of_length_eq_zero hl
    have hr := run_append_owned_none (P := Try.prog) (w := w) base 22 ty 3 i0 1 Try.underlying22 hi _ _ _ hown
    have hv : ∃ aa cap, v = .slice aa n cap := by
      rcases hown.2 with ⟨e, e2⟩ | ⟨g, cap, _, e, _⟩
      · exact ⟨none, 0, by rw [e, e2]⟩
      · exact ⟨_, _, e⟩
    obtain ⟨aa, cap, rfl⟩ := hv
    refine ⟨aa, cap, w, hr, ?_, ⟨rfl, rfl, rfl, Nat.le_refl _, fun _ _ _ => rfl⟩, Or.inl rfl⟩
    rw [List.append_nil]
    exact hown
  | some ad =>
    obtain ⟨v', w', hr, h1, h2, h4, h5⟩ := run_append_own_at (P := Try.prog) w base 22 ty 3 i0 (.int .i64 0) 1 8 Try.underlying22 hi hz0 hz1 hz2 rfl (by decide) _ n _ hown ad m c (vals ds) (by rw [vals_length]; omega)
      (by
        intro j u hj
        unfold vals at hj
        rw [List.getElem?_map] at hj
        have hjl : j < ds.length := by
          rcases Nat.lt_or_ge j ds.length with h | h
          · exact h
          · rw [List.getElem?_eq_none h] at hj; cases hj
        obtain ⟨b, off, e, hcl⟩ := hcell (by omega)
        cases e
        rw [List.getElem?_eq_getElem hjl] at hj
        rw [add_spot, hcl j _ (List.getElem?_eq_getElem hjl)]
        simpa using hj)
      (by intro u hu; unfold vals at hu; simp only [List.mem_map] at hu; obtain ⟨y, _, rfl⟩ := hu; rfl) (by unfold maxLen; omega) (by omega) hbase
    have hv : ∃ aa cap, v' = .slice aa (n + m) cap := by
      rcases h1.2 with ⟨e, e2⟩ | ⟨g, cap, _, e, _⟩
      · exact ⟨none, 0, by rw [e, e2]⟩
      · exact ⟨_, _, e⟩
    obtain ⟨aa, cap, rfl⟩ := hv
    have e : vals xs ++ vals ds = vals (xs ++ ds) := by simp [vals]
    rw [e] at h1
    exact ⟨aa, cap, w', hr, h1, h2, h5⟩

theorem step_append_ints {w : World} {ops : Array Oper} {o : Oper} {a : Act} {K : Act → World → Prop} {Q : Exit → Act → World → Prop} {E : Prop} (hgd : o.guard = none) (s x : Operand) (ho : o.op = .call { callee := .builtin .append, args := #[s, x], argTypes := #[22, 22] })
    (base n : Nat) (v : Value) (xs : List Int) (hs : a.eval s = v) (hown : w.ownsRow base 3 1 v n (vals xs))
    (ad : Option Addr) (m c : Nat) (ds : List Int) (hx : a.eval x = .slice ad m c) (hb : Ints w ad m ds) (hc : ad = none → m = 0 ∧ c = 0) (hn : n ≤ 33554432) (hm : m ≤ 33554432) (hbase : base ≤ w.heap.size)
    (h : ∀ aa cap w', w'.ownsRow base 3 1 (.slice aa (n + m) cap) (n + m) (vals (xs ++ ds)) → w.grownBy w' v.ownBlock → ((Value.slice aa (n + m) cap).ownBlock = v.ownBlock ∨ (Value.slice aa (n + m) cap).ownBlock = some w.heap.size) → K (a.put o.dst (.slice aa (n + m) cap)) w') :
    if Region.wanted o (yielded ops a.tmps) = true then Oper.wp Try.prog o a w K Q else E := by
  have hw : Region.wanted o (yielded ops a.tmps) = true := by simp [Region.wanted, hgd]
  rw [if_pos hw]
  obtain ⟨aa, cap, w', hr, h1, h2, h3⟩ := run_append_ints w o.type base n v xs hown ad m c ds hb hc hn hm hbase
  unfold Oper.wp execOp
  simp only [ho, resolve, invoke, builtin, Sem.run_bind, Sem.run_pure, Result.andThen_ok, List.map_toArray, List.map_cons, List.map_nil, hs, hx, hr]
  exact h aa cap w' h1 h2 h3
end Go.Proofs.Ytoiknbbimgeihaa
