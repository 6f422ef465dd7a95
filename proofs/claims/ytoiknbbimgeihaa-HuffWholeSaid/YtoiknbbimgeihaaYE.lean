/- The walk of HuffSteps. -/
import Derived.Test.YtoiknbbimgeihaaYD
import Derived.Test.YtoiknbbimgeihaaXW
namespace Go.Proofs.Ytoiknbbimgeihaa
open Go.RowKit
set_option linter.unusedVariables false

/-- A decoder of all codes, with what is known of it. -/
def DecAll (w : World) (D : Nat) (zs : List Int) : Prop :=
  ∃ B v ps cs l c, Dec w B D v ps.length cs ∧ Trie.Tree l c zs.length ps (wayOf cs) ∧ ps.length ≤ 4801 ∧ (∀ z ∈ cs, -16777216 ≤ z ∧ z ≤ 16777216) ∧ TF zs (codesZ zs) l c
/-- A state stands for so many bits. -/
def At (w : World) (D : Nat) (zs : List Int) (st n v : Nat) : Prop :=
  ∃ B val ps cs l c, Dec w B D val ps.length cs ∧ Trie.Tree l c zs.length ps (wayOf cs) ∧ ps.length ≤ 4801 ∧ (∀ z ∈ cs, -16777216 ≤ z ∧ z ≤ 16777216) ∧ TF zs (codesZ zs) l c ∧ ps[st]? = some (n, v)
theorem all_of {w : World} {B D : Nat} {zs : List Int} {l c : Nat → Nat} (hl : zs.length ≤ 300) (T : TF zs (codesZ zs) l c) (h : DecT w B D l c zs.length) : At w D zs 0 0 0 := by
  obtain ⟨v, ps, cs, h1, h2, h3, h4⟩ := h
  exact ⟨B, v, ps, cs, l, c, h1, h2, by omega, fun z hz => by have := h4 z hz; omega, T, h2.root⟩
theorem At.later {w w' : World} {D : Nat} {zs : List Int} {st n v : Nat} (h : At w D zs st n v) (hk : ∀ k, k < w.heap.size → w'.heap[k]? = w.heap[k]?) : At w' D zs st n v := by
  obtain ⟨B, val, ps, cs, l, c, h1, h⟩ := h
  exact ⟨B, val, ps, cs, l, c, h1.later hk, h⟩
theorem At.start {w : World} {D : Nat} {zs : List Int} {st n v : Nat} (h : At w D zs st n v) : At w D zs 0 0 0 := by
  obtain ⟨B, val, ps, cs, l, c, h1, h2, h3, h4, h5, h6⟩ := h
  exact ⟨B, val, ps, cs, l, c, h1, h2, h3, h4, h5, h2.root⟩
theorem At.bound {w : World} {D : Nat} {zs : List Int} {st n v : Nat} (h : At w D zs st n v) : st ≤ 4801 ∧ n ≤ 16 ∧ v ≤ 65536 := by
  obtain ⟨B, val, ps, cs, l, c, h1, h2, h3, h4, h5, h6⟩ := h
  have hs := (List.getElem?_eq_some_iff.1 h6).1
  rcases Nat.eq_zero_or_pos st with e | e
  · subst e
    rw [h2.root, Option.some.injEq, Prod.mk.injEq] at h6
    omega
  · obtain ⟨s, j, q1, q2, q3, q4⟩ := h2.of_ st _ h6 e
    rcases Nat.lt_or_ge s zs.length with hlt | hge
    · obtain ⟨r1, r2, r3, r4⟩ := h5.at' s hlt
      have hc := r4 (by omega)
      have hp := Nat.pow_le_pow_right (show 0 < 2 by omega) r2
      rw [Prod.ext_iff] at q4
      simp only [Trie.pre] at q4
      have := Nat.div_le_self (c s) (2 ^ (l s - j))
      omega
    · have := h5.out s hge
      omega
/-- One bit. -/
def Go1 (w : World) (D : Nat) (zs : List Int) (n v b : Nat) (r : Int × Int) : Prop :=
  (∃ s : Nat, findS zs (codesZ zs) ((n + 1 : Nat) : Int) ((2 * v + b : Nat) : Int) zs.length = some s ∧ r = (0, (s : Int))) ∨
  (∃ t : Nat, findS zs (codesZ zs) ((n + 1 : Nat) : Int) ((2 * v + b : Nat) : Int) zs.length = none ∧ beginsS zs (codesZ zs) ((n + 1 : Nat) : Int) ((2 * v + b : Nat) : Int) zs.length = true ∧ r = ((t : Int), -1) ∧ 0 < t ∧ At w D zs t (n + 1) (2 * v + b)) ∨
  (findS zs (codesZ zs) ((n + 1 : Nat) : Int) ((2 * v + b : Nat) : Int) zs.length = none ∧ beginsS zs (codesZ zs) ((n + 1 : Nat) : Int) ((2 * v + b : Nat) : Int) zs.length = false ∧ r = (-1, -1))
theorem step_at {w : World} {D : Nat} {zs : List Int} {st n v : Nat} (h : At w D zs st n v) (bit : Int) (b : Nat) (hb : b < 2) (hbit : bits .and .i64 bit 1 = (b : Int)) :
    ∃ x y, Go1 w D zs n v b (x, y) ∧ Calls Try.prog 19 #[.pointer (some ⟨D, 0, none⟩), .int .i64 (st : Nat), .int .i64 bit] w fun e w' => e = .returned (.tuple #[.int .i64 x, .int .i64 y]) ∧ w' = w := by
  obtain ⟨B, val, ps, cs, l, c, h1, h2, h3, h4, h5, h6⟩ := h
  have hm : 0 < ps.length := (List.getElem?_eq_some_iff.1 h2.root).1
  have hc := step_any w B D ps.length val cs h1 hm (by omega) h4 (st : Nat) bit b hb hbit
  obtain ⟨k1, k2, k3⟩ := step_is h5 h2 h6 hb
  refine ⟨_, _, ?_, hc⟩
  cases hf : findS zs (codesZ zs) ((n + 1 : Nat) : Int) ((2 * v + b : Nat) : Int) zs.length with
  | some s => exact Or.inl ⟨s, hf, k1 s hf⟩
  | none =>
    cases hg : beginsS zs (codesZ zs) ((n + 1 : Nat) : Int) ((2 * v + b : Nat) : Int) zs.length with
    | true =>
      obtain ⟨t, e, h0, ht⟩ := k2 hf hg
      exact Or.inr (Or.inl ⟨t, hf, hg, e, h0, B, val, ps, cs, l, c, h1, h2, h3, h4, h5, ht⟩)
    | false => exact Or.inr (Or.inr ⟨hf, hg, k3 hf hg⟩)
/-- From no state. -/
theorem step_off {w : World} {D : Nat} {zs : List Int} {st n v : Nat} (h : At w D zs st n v) (bit : Int) (b : Nat) (hb : b < 2) (hbit : bits .and .i64 bit 1 = (b : Int)) :
    Calls Try.prog 19 #[.pointer (some ⟨D, 0, none⟩), .int .i64 (-1), .int .i64 bit] w fun e w' => e = .returned (.tuple #[.int .i64 (-1), .int .i64 (-1)]) ∧ w' = w := by
  obtain ⟨B, val, ps, cs, l, c, h1, h2, h3, h4, h5, h6⟩ := h
  have hm : 0 < ps.length := (List.getElem?_eq_some_iff.1 h2.root).1
  have hc := step_any w B D ps.length val cs h1 hm (by omega) h4 (-1) bit b hb hbit
  have e : stepOf ps.length cs (-1) b = (-1, -1) := by unfold stepOf; rw [if_neg (by omega)]
  rw [e] at hc
  exact hc
/-- The lowest bit of a number. -/
theorem low_bit (x : Int) (hx : -9223372036854775808 ≤ x ∧ x ≤ 9223372036854775807) : ∃ b : Nat, b < 2 ∧ bits .and .i64 x 1 = (b : Int) := by
  refine ⟨(BitVec.ofInt 64 x &&& 1#64).toNat, ?_, ?_⟩
  · rw [BitVec.toNat_and]
    have : (BitVec.ofInt 64 x).toNat &&& 1 = (BitVec.ofInt 64 x).toNat % 2 := Nat.and_one_is_mod _
    show (BitVec.ofInt 64 x).toNat &&& 1 < 2
    omega
  · show IntKind.i64.wrap ((BitVec.ofInt 64 x &&& BitVec.ofInt 64 1).toNat : Int) = _
    rw [show BitVec.ofInt 64 1 = 1#64 from by decide]
    have h1 : (BitVec.ofInt 64 x &&& 1#64).toNat ≤ 1 := by
      rw [BitVec.toNat_and]
      have : (BitVec.ofInt 64 x).toNat &&& 1 = (BitVec.ofInt 64 x).toNat % 2 := Nat.and_one_is_mod _
      show (BitVec.ofInt 64 x).toNat &&& 1 ≤ 1
      omega
    exact wrap_i64 _ (by omega) (by omega)

set_option maxRecDepth 100000 in
set_option maxHeartbeats 1600000 in
theorem steps_long (w : World) (a : Option Addr) (n c : Nat) (a2 : Option Addr) (m c2 : Nat) (h : 400 < n ∨ 300 < m) : Calls Try.prog 6 #[.slice a n c, .slice a2 m c2] w (Yes w) := by
  have A := Lib.hid (anchor_any w)
  by_cases h1 : 400 < n
  · have t0 : decide ((400 : Int) < (n : Int)) = true := by simp; omega
    clear h
    go_enter Try.func6, Try.ntmps6
    go_wp2_with fail
    refine A.out.mono ?_
    rintro e w1 ⟨rfl, hk⟩
    have HK := Lib.hid hk
    clear hk
    go_wp2
    go_ret
    exact ⟨rfl, HK.out⟩
  · have t0 : decide ((400 : Int) < (n : Int)) = false := by simp; omega
    have t1 : decide ((300 : Int) < (m : Int)) = true := by simp; omega
    clear h
    go_enter Try.func6, Try.ntmps6
    go_wp2_with fail
    refine A.out.mono ?_
    rintro e w1 ⟨rfl, hk⟩
    have HK := Lib.hid hk
    clear hk
    go_wp2
    go_ret
    exact ⟨rfl, HK.out⟩
end Go.Proofs.Ytoiknbbimgeihaa
