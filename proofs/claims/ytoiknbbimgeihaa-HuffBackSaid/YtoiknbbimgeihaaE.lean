/- One place of the document's least: the contract of level, and what it says in plain words. -/
import Derived.Test.YtoiknbbimgeihaaD
import Derived.Test.YtoiknbbimgeihaaPG
namespace Go.Proofs.Ytoiknbbimgeihaa
open Go.RowKit
set_option linter.unusedVariables false

/-- What one place is reckoned of. -/
def lvl (i n p d most h x S : Int) : Int :=
  if i = n then 0 else
  let l := if 0 < p then h else -1
  if 0 < p ∧ d < most then (if 0 ≤ x ∧ (l < 0 ∨ x + S < l) then x + S else l) else l
/-- A least cost as a number; none is below 0. -/
def enc : Option Nat → Int
  | none => -1
  | some v => v
theorem lvl_end (n p d most h x S : Int) : lvl n n p d most h x S = 0 := by unfold lvl; rw [if_pos rfl]
/-- The recursion's step. -/
theorem lvl_least (r : Nat) (a : Nat) (cs : List Nat) (i n p d most : Nat) (hin : i < n) (hr : most = d + r) :
    lvl i n p d most (enc (Huff.least r cs (p - 1))) (enc (Huff.least (r - 1) (a :: cs) (2 * p))) (a :: cs).sum = enc (Huff.least r (a :: cs) p) := by
  unfold lvl
  rw [if_neg (by omega)]
  cases p with
  | zero =>
    have e1 : enc (Huff.least r (a :: cs) 0) = -1 := by rw [Huff.least_none]; rfl
    rw [e1]
    simp
  | succ p =>
    simp only [show (0 : Int) < ((p + 1 : Nat) : Int) by omega, if_true, true_and, Nat.add_sub_cancel]
    cases r with
    | zero =>
      rw [if_neg (by omega), Huff.least_flat]
    | succ r =>
      rw [if_pos (by omega), Huff.least_deep, Nat.add_sub_cancel]
      cases h1 : Huff.least (r + 1) cs p with
      | none =>
        cases h2 : Huff.least r (a :: cs) (2 * (p + 1)) with
        | none => simp [enc, Huff.omin]
        | some x => simp [enc, Huff.omin]
      | some y =>
        cases h2 : Huff.least r (a :: cs) (2 * (p + 1)) with
        | none => simp [enc, Huff.omin]
        | some x =>
          generalize (a :: cs).sum = S
          show (if (0 : Int) ≤ (x : Int) ∧ ((y : Int) < 0 ∨ (x : Int) + (S : Int) < (y : Int)) then (x : Int) + (S : Int) else (y : Int)) = ((min y (x + S) : Nat) : Int)
          by_cases hlt : x + S < y
          · rw [if_pos (by omega), Nat.min_eq_right (by omega)]
            simp
          · rw [if_neg (by omega), Nat.min_eq_left (by omega)]

/-- A cell of a matrix in memory. -/
def At2 (w : World) (a : Option Addr) (rows cols i p : Nat) (z : Int) : Prop :=
  ∃ b off a' b' o' c', a = some ⟨b, off, none⟩ ∧ i < rows ∧ w.cell? ⟨b, off + i, none⟩ = some (.slice a' cols c') ∧ p < cols ∧ a' = some ⟨b', o', none⟩ ∧ w.cell? ⟨b', o' + p, none⟩ = some (.int .i64 z)
theorem At2.alloc {w : World} {a : Option Addr} {rows cols i p : Nat} {z : Int} (h : At2 w a rows cols i p z) (o : Obj) : At2 (w.alloc o) a rows cols i p z := by
  obtain ⟨b, off, a', b', o', c', h1, h2, h3, h4, h5, h6⟩ := h
  have up : ∀ q v, w.cell? q = some v → (w.alloc o).cell? q = some v := fun q v hv => (World.cell?_of_block (w := w) (Below.heap_alloc _ _ _ (World.block_lt_of_cell? w _ hv))).trans hv
  exact ⟨b, off, a', b', o', c', h1, h2, up _ _ h3, h4, h5, up _ _ h6⟩

set_option maxRecDepth 100000 in
set_option maxHeartbeats 1600000 in
theorem level_end (w : World) (va vb : Value) (s : Option Addr) (n c : Nat) (p d : Nat) (most : Nat) (hn : n ≤ 1000) :
    Calls Try.prog 25 #[va, vb, .slice s (n + 1) c, .agg #[.int .i64 n, .int .i64 p, .int .i64 d], .int .i64 most] w fun e w' => e = .returned (.int .i64 0) ∧ Below w.heap.size w w' := by
  go_enter Try.func25, Try.ntmps25
  go_wp2
  go_ret
  exact ⟨rfl, (Below.refl _ _).alloc (Nat.le_refl _) _⟩

set_option maxRecDepth 100000 in
set_option maxHeartbeats 1600000 in
theorem level_any (w : World) (va vb : Option Addr) (ra ca rb cb : Nat) (s : Option Addr) (n c : Nat) (i p d : Nat) (most : Nat) (h x S : Int) (ss : List Int) (hn : n ≤ 1000) (hin : i < n) (hp : p ≤ 1000) (hs : Ints w s (n + 1) ss) (hS : ss[i]? = some S)
    (hb1 : -1 ≤ h ∧ h ≤ 1152921504606846976) (hb2 : -1 ≤ x ∧ x ≤ 1152921504606846976) (hb3 : 0 ≤ S ∧ S ≤ 1152921504606846976)
    (hh : 0 < p → At2 w vb rb (n + 1) (i + 1) (p - 1) h) (hx : 0 < p → d < most → At2 w va ra (n + 1) i (min (2 * p) n) x) :
    Calls Try.prog 25 #[.slice va ra ca, .slice vb rb cb, .slice s (n + 1) c, .agg #[.int .i64 i, .int .i64 p, .int .i64 d], .int .i64 most] w fun e w' => e = .returned (.int .i64 (lvl i n p d most h x S)) ∧ Below w.heap.size w w' := by
  have hb : Below w.heap.size w (w.alloc (.cells #[.int .i64 i, .int .i64 p, .int .i64 d] 45)) := (Below.refl _ _).alloc (Nat.le_refl _) _
  have HB := Lib.hid hb
  have u0 : ((i : Int) == (n : Int)) = false := by simp; omega
  clear hb
  obtain ⟨bs, os, rfl, hS2⟩ := hs.2.2 (by omega)
  have hcS := (World.cell?_of_block (w := w) (HB.out.block _ (World.block_lt_of_cell? w _ (hS2 i S hS)))).trans (hS2 i S hS)
  clear hs hS hS2
  by_cases hp0 : p = 0
  · subst hp0
    have hl : lvl i n ((0 : Nat) : Int) d most h x S = -1 := by
      unfold lvl
      rw [if_neg (by omega)]
      simp
    have HL := Lib.hid hl
    clear hh hx hl
    go_enter Try.func25, Try.ntmps25
    go_wp2
    go_ret
    exact ⟨by rw [HL.out]; rfl, HB.out⟩
  · have u1 : decide ((0 : Int) < (p : Int)) = true := by simp; omega
    obtain ⟨b1, f1, a1, b1', o1, c1, rfl, hr1, hc1, hp1, rfl, hv1⟩ := (hh (by omega)).alloc (.cells #[.int .i64 i, .int .i64 p, .int .i64 d] 45)
    have ep : (p : Int) - 1 = ((p - 1 : Nat) : Int) := by omega
    obtain ⟨k, hk⟩ : ∃ k, k = p - 1 := ⟨_, rfl⟩
    rw [← hk] at ep hv1 hp1
    clear hh hk
    have hc1' : (w.alloc (.cells #[.int .i64 i, .int .i64 p, .int .i64 d] 45)).cell? ⟨b1, f1 + (i + 1), none⟩ = some (.slice (some ⟨b1', o1, none⟩) (n + 1) c1) := hc1
    by_cases hd : d < most
    · have u2 : decide ((d : Int) < (most : Int)) = true := by simp; omega
      obtain ⟨b2, f2, a2, b2', o2, c2, rfl, hr2, hc2, hp2, rfl, hv2⟩ := (hx (by omega) hd).alloc (.cells #[.int .i64 i, .int .i64 p, .int .i64 d] 45)
      clear hx
      have hl : lvl i n p d most h x S = if 0 ≤ x ∧ (h < 0 ∨ x + S < h) then x + S else h := by
        unfold lvl
        rw [if_neg (by omega)]
        simp only [show (0 : Int) < (p : Int) by omega, if_true, true_and]
        rw [if_pos (by omega)]
      have HL := Lib.hid hl
      clear hl
      go_enter Try.func25, Try.ntmps25
      obtain ⟨q2, hq2⟩ : ∃ q2 : Nat, (2 : Int) * (p : Int) = (q2 : Int) := ⟨2 * p, by omega⟩
      by_cases hq : n < q2
      · have u3 : decide ((n : Int) < (q2 : Int)) = true := by simp; omega
        rw [show min (2 * p) n = n by omega] at hv2 hp2
        have i1 : (i : Int) + 1 < (rb : Int) := by omega
        have i2 : (k : Int) < (n : Int) + 1 := by omega
        clear hc1
        by_cases hx0 : x < 0
        · have u4 : decide ((0 : Int) ≤ x) = false := by simp; omega
          have X := Lib.hid (show lvl i n p d most h x S = h by rw [HL.out, if_neg (by omega)])
          go_wp2
          go_ret
          exact ⟨by rw [X.out]; rfl, HB.out⟩
        · have u4 : decide ((0 : Int) ≤ x) = true := by simp; omega
          by_cases hh0 : h < 0
          · have u5 : decide (h < 0) = true := by simpa using hh0
            have X := Lib.hid (show lvl i n p d most h x S = x + S by rw [HL.out, if_pos (by omega)])
            go_wp2
            go_ret
            exact ⟨by rw [X.out]; rfl, HB.out⟩
          · have u5 : decide (h < 0) = false := by simpa using hh0
            by_cases hlt : x + S < h
            · have u6 : decide (x + S < h) = true := by simpa using hlt
              have X := Lib.hid (show lvl i n p d most h x S = x + S by rw [HL.out, if_pos (by omega)])
              go_wp2
              go_ret
              exact ⟨by rw [X.out]; rfl, HB.out⟩
            · have u6 : decide (x + S < h) = false := by simpa using hlt
              have X := Lib.hid (show lvl i n p d most h x S = h by rw [HL.out, if_neg (by omega)])
              go_wp2
              go_ret
              exact ⟨by rw [X.out]; rfl, HB.out⟩
      · have u3 : decide ((n : Int) < (q2 : Int)) = false := by simp; omega
        rw [show min (2 * p) n = q2 by omega] at hv2 hp2
        have i1 : (i : Int) + 1 < (rb : Int) := by omega
        have i2 : (k : Int) < (n : Int) + 1 := by omega
        clear hc1
        by_cases hx0 : x < 0
        · have u4 : decide ((0 : Int) ≤ x) = false := by simp; omega
          have X := Lib.hid (show lvl i n p d most h x S = h by rw [HL.out, if_neg (by omega)])
          go_wp2
          go_ret
          exact ⟨by rw [X.out]; rfl, HB.out⟩
        · have u4 : decide ((0 : Int) ≤ x) = true := by simp; omega
          by_cases hh0 : h < 0
          · have u5 : decide (h < 0) = true := by simpa using hh0
            have X := Lib.hid (show lvl i n p d most h x S = x + S by rw [HL.out, if_pos (by omega)])
            go_wp2
            go_ret
            exact ⟨by rw [X.out]; rfl, HB.out⟩
          · have u5 : decide (h < 0) = false := by simpa using hh0
            by_cases hlt : x + S < h
            · have u6 : decide (x + S < h) = true := by simpa using hlt
              have X := Lib.hid (show lvl i n p d most h x S = x + S by rw [HL.out, if_pos (by omega)])
              go_wp2
              go_ret
              exact ⟨by rw [X.out]; rfl, HB.out⟩
            · have u6 : decide (x + S < h) = false := by simpa using hlt
              have X := Lib.hid (show lvl i n p d most h x S = h by rw [HL.out, if_neg (by omega)])
              go_wp2
              go_ret
              exact ⟨by rw [X.out]; rfl, HB.out⟩
    · have u2 : decide ((d : Int) < (most : Int)) = false := by simp; omega
      have hl : lvl i n p d most h x S = h := by
        unfold lvl
        rw [if_neg (by omega)]
        simp only [show (0 : Int) < (p : Int) by omega, if_true, true_and]
        rw [if_neg (by omega)]
      have HL := Lib.hid hl
      clear hl hx
      go_enter Try.func25, Try.ntmps25
      go_wp2
      go_ret
      exact ⟨by rw [HL.out]; rfl, HB.out⟩
end Go.Proofs.Ytoiknbbimgeihaa
