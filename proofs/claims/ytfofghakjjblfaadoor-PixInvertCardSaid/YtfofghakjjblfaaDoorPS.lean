/- Tables of colours in plain numbers. -/
import Derived.Test.YtfofghakjjblfaaDoorPA
namespace Go.Proofs.YtfofghakjjblfaaDoor
namespace Px
set_option linter.unusedVariables false

/-- On the line between two points. -/
def line (x0 y0 x1 y1 v : Int) : Int := y0 + ((y1 - y0) * (v - x0)).tdiv (x1 - x0)
theorem line_left {x0 y0 x1 y1 : Int} : line x0 y0 x1 y1 x0 = y0 := by unfold line; rw [Int.sub_self, Int.mul_zero, Int.zero_tdiv, Int.add_zero]
theorem line_right {x0 y0 x1 y1 : Int} (h : x0 < x1) : line x0 y0 x1 y1 x1 = y1 := by
  unfold line; rw [Int.mul_tdiv_cancel _ (by omega)]; omega
theorem tdiv_part {p q : Int} (d : Int) (hq : 0 < q) (h0 : 0 ≤ p) (h1 : p ≤ q) (hd : 0 ≤ d) : 0 ≤ (d * p).tdiv q ∧ (d * p).tdiv q ≤ d := by
  have hm : 0 ≤ d * p := Int.mul_nonneg hd h0
  rw [Int.tdiv_eq_ediv_of_nonneg hm]
  refine ⟨Int.ediv_nonneg hm (by omega), ?_⟩
  have : d * p ≤ d * q := Int.mul_le_mul_of_nonneg_left h1 hd
  exact Int.ediv_le_of_le_mul hq this
theorem line_byte {x0 y0 x1 y1 v : Int} (hx : x0 < x1) (h0 : x0 ≤ v) (h1 : v ≤ x1) (hy0 : Byte y0) (hy1 : Byte y1) : Byte (line x0 y0 x1 y1 v) := by
  unfold line
  rcases Int.le_total y0 y1 with h | h
  · have := tdiv_part (p := v - x0) (q := x1 - x0) (y1 - y0) (by omega) (by omega) (by omega) (by omega)
    unfold Byte at *
    omega
  · have := tdiv_part (p := v - x0) (q := x1 - x0) (y0 - y1) (by omega) (by omega) (by omega) (by omega)
    rw [show (y1 - y0) * (v - x0) = -((y0 - y1) * (v - x0)) by rw [← Int.neg_mul, Int.neg_sub], Int.neg_tdiv]
    unfold Byte at *
    omega

def pt (ps : List Int) (i : Nat) : Int := ps.getD i 0
/-- The height of a curve at v. -/
def CurveIs (ps : List Int) (v r : Int) : Prop :=
  (v ≤ pt ps 0 ∧ r = pt ps 1) ∨
  (∃ k, 0 < k ∧ 2 * k < ps.length ∧ (∀ j, j < k → pt ps (2 * j) < v) ∧ v ≤ pt ps (2 * k) ∧ r = line (pt ps (2 * k - 2)) (pt ps (2 * k - 1)) (pt ps (2 * k)) (pt ps (2 * k + 1)) v) ∨
  ((∀ j, 2 * j < ps.length → pt ps (2 * j) < v) ∧ r = pt ps (ps.length - 1))
/-- Points that rise. -/
def Points (ps : List Int) : Prop := 2 ≤ ps.length ∧ ps.length ≤ 32 ∧ ps.length % 2 = 0 ∧ ∀ k, 0 < k → 2 * k < ps.length → pt ps (2 * k - 2) < pt ps (2 * k)
theorem points_mono {ps : List Int} (h : Points ps) : ∀ (k j : Nat), j < k → 2 * k < ps.length → pt ps (2 * j) < pt ps (2 * k)
  | 0, j, hj, _ => absurd hj (by omega)
  | k + 1, j, hj, hk => by
    have h1 := h.2.2.2 (k + 1) (by omega) hk
    rw [show 2 * (k + 1) - 2 = 2 * k by omega] at h1
    by_cases e : j = k
    · subst e; exact h1
    · have := points_mono h k j (by omega) (by omega)
      omega
theorem curve_one {ps : List Int} {v r r' : Int} (hp : Points ps) (h : CurveIs ps v r) (h' : CurveIs ps v r') : r = r' := by
  have hl := hp.1
  rcases h with ⟨a, b⟩ | ⟨k, k0, kl, ka, kb, kr⟩ | ⟨a, b⟩ <;> rcases h' with ⟨a', b'⟩ | ⟨k', k0', kl', ka', kb', kr'⟩ | ⟨a', b'⟩
  · rw [b, b']
  · have := ka' 0 k0'; simp at this; omega
  · have := a' 0 (by omega); simp at this; omega
  · have := ka 0 k0; simp at this; omega
  · have e : k = k' := by
      rcases Nat.lt_trichotomy k k' with e | e | e
      · have := ka' k e; omega
      · exact e
      · have := ka k' e; omega
    subst e
    rw [kr, kr']
  · have := a' k kl; omega
  · have := a 0 (by omega); simp at this; omega
  · have := a k' kl'; omega
  · rw [b, b']
/-- As the document tells it: the next point's line begins where this one ends. -/
def CurveDoc (ps : List Int) (v r : Int) : Prop :=
  (v ≤ pt ps 0 ∧ r = pt ps 1) ∨
  (pt ps 0 < v ∧ ∃ k, 0 < k ∧ 2 * k < ps.length ∧ (∀ j, j < k → pt ps (2 * j) ≤ v) ∧ v < pt ps (2 * k) ∧ r = line (pt ps (2 * k - 2)) (pt ps (2 * k - 1)) (pt ps (2 * k)) (pt ps (2 * k + 1)) v) ∨
  (pt ps 0 < v ∧ (∀ j, 2 * j < ps.length → pt ps (2 * j) ≤ v) ∧ r = pt ps (ps.length - 1))
theorem curve_doc {ps : List Int} {v r : Int} (hp : Points ps) (h : CurveDoc ps v r) : CurveIs ps v r := by
  have hl := hp.1
  rcases h with h | ⟨h0, k, k0, kl, ka, kb, kr⟩ | ⟨h0, a, b⟩
  · exact .inl h
  · by_cases e : v = pt ps (2 * (k - 1))
    · by_cases k1 : k = 1
      · subst k1; simp at e; omega
      · refine .inr (.inl ⟨k - 1, by omega, by omega, fun j hj => ?_, by omega, ?_⟩)
        · have := points_mono hp (k - 1) j hj (by omega); omega
        · have hr := hp.2.2.2 (k - 1) (by omega) (by omega)
          rw [kr, e, line_right hr, show 2 * k - 2 = 2 * (k - 1) by omega, line_left, show 2 * k - 1 = 2 * (k - 1) + 1 by omega]
    · refine .inr (.inl ⟨k, k0, kl, fun j hj => ?_, by omega, kr⟩)
      by_cases ej : j = k - 1
      · subst ej
        have := ka (k - 1) (by omega)
        omega
      · have := points_mono hp (k - 1) j (by omega) (by omega)
        have := ka (k - 1) (by omega)
        omega
  · obtain ⟨m, hm⟩ : ∃ m, ps.length = 2 * m + 2 := ⟨ps.length / 2 - 1, by have := hp.2.2.1; omega⟩
    by_cases e : v = pt ps (2 * m)
    · by_cases m0 : m = 0
      · subst m0; simp at e; omega
      · refine .inr (.inl ⟨m, by omega, by omega, fun j hj => ?_, by omega, ?_⟩)
        · have := points_mono hp m j hj (by omega); omega
        · have hr := hp.2.2.2 m (by omega) (by omega)
          rw [b, e, line_right hr, show ps.length - 1 = 2 * m + 1 by omega]
    · refine .inr (.inr ⟨fun j hj => ?_, b⟩)
      have h2 := a m (by omega)
      by_cases ej : j = m
      · subst ej; omega
      · have := points_mono hp m j (by omega) (by omega)
        omega
theorem pt_byte {ps : List Int} (h : ∀ z ∈ ps, Byte z) (i : Nat) : Byte (pt ps i) := by
  unfold pt
  rw [List.getD_eq_getElem?_getD]
  cases e : ps[i]? with
  | none => decide
  | some z => exact h z (List.mem_of_getElem? e)
theorem curve_byte {ps : List Int} {v r : Int} (hp : Points ps) (hb : ∀ z ∈ ps, Byte z) (h : CurveIs ps v r) : Byte r := by
  rcases h with ⟨_, rfl⟩ | ⟨k, k0, kl, ka, kb, rfl⟩ | ⟨_, rfl⟩
  · exact pt_byte hb 1
  · have h1 := hp.2.2.2 k k0 kl
    have h2 := ka (k - 1) (by omega)
    rw [show 2 * (k - 1) = 2 * k - 2 by omega] at h2
    exact line_byte h1 (by omega) kb (pt_byte hb _) (pt_byte hb _)
  · exact pt_byte hb _
noncomputable def curve (ps : List Int) (v : Int) : Int := Classical.epsilon (CurveIs ps v)
theorem curve_eq {ps : List Int} {v r : Int} (hp : Points ps) (h : CurveIs ps v r) : curve ps v = r :=
  curve_one hp (Classical.epsilon_spec ⟨r, h⟩) h
theorem curve_ex {ps : List Int} (hp : Points ps) (v : Int) : ∃ r, CurveIs ps v r := by
  by_cases h0 : v ≤ pt ps 0
  · exact ⟨_, .inl ⟨h0, rfl⟩⟩
  · by_cases h : ∃ k, 2 * k < ps.length ∧ v ≤ pt ps (2 * k)
    · have : ∀ n k, k ≤ n → 2 * k < ps.length → v ≤ pt ps (2 * k) → ∃ r, CurveIs ps v r := by
        intro n
        induction n with
        | zero =>
          intro k hk hl hv
          obtain rfl : k = 0 := by omega
          exact absurd hv h0
        | succ n ih =>
          intro k hk hl hv
          by_cases e : ∃ j, j < k ∧ v ≤ pt ps (2 * j)
          · obtain ⟨j, hj, hjv⟩ := e
            exact ih j (by omega) (by omega) hjv
          · have k0 : 0 < k := by
              rcases Nat.eq_zero_or_pos k with rfl | h
              · exact absurd hv h0
              · exact h
            exact ⟨_, .inr (.inl ⟨k, k0, hl, fun j hj => by
              have : ¬ v ≤ pt ps (2 * j) := fun c => e ⟨j, hj, c⟩
              omega, hv, rfl⟩)⟩
      obtain ⟨k, hk, hv⟩ := h
      exact this k k (Nat.le_refl _) hk hv
    · exact ⟨_, .inr (.inr ⟨fun j hj => by
        have : ¬ v ≤ pt ps (2 * j) := fun c => h ⟨j, hj, c⟩
        omega, rfl⟩)⟩

/-! Levels. -/
def level (lo hi v : Int) : Int := (255 * (min (max v lo) hi - lo) + (hi - lo) / 2) / (hi - lo)
theorem level_low {lo hi v : Int} (h : lo < hi) (hv : v ≤ lo) : level lo hi v = 0 := by
  unfold level
  rw [show min (max v lo) hi = lo by omega, Int.sub_self, Int.mul_zero, Int.zero_add]
  exact Int.ediv_eq_zero_of_lt (by omega) (by omega)
theorem level_high {lo hi v : Int} (h : lo < hi) (hv : hi ≤ v) : level lo hi v = 255 := by
  unfold level
  rw [show min (max v lo) hi = hi by omega, Int.mul_comm, Int.add_comm, Int.add_mul_ediv_left _ _ (by omega), Int.ediv_eq_zero_of_lt (by omega) (by omega)]
  rfl
theorem level_mid {lo hi v : Int} (h0 : lo < v) (h1 : v < hi) : level lo hi v = (255 * (v - lo) + (hi - lo) / 2) / (hi - lo) := by
  unfold level
  rw [show min (max v lo) hi = v by omega]
theorem level_byte {lo hi v : Int} (h : lo < hi) : Byte (level lo hi v) := by
  unfold level
  have h0 : 0 ≤ min (max v lo) hi - lo := by omega
  have h1 : min (max v lo) hi - lo ≤ hi - lo := by omega
  have hq : 0 < hi - lo := by omega
  generalize min (max v lo) hi - lo = p at *
  generalize hi - lo = q at *
  refine ⟨Int.ediv_nonneg (by omega) (by omega), ?_⟩
  have : (255 * p + q / 2) / q < 256 := Int.ediv_lt_of_lt_mul hq (by omega)
  omega
/-! Which params make a table, and what it has. -/
def Bytes (ps : List Int) : Prop := ∀ z ∈ ps, Byte z
def Fits (kind : Int) (ps : List Int) : Prop :=
  Bytes ps ∧ ((kind = 0 ∧ ps.length = 2 ∧ pt ps 0 < pt ps 1) ∨ (kind = 1 ∧ Points ps) ∨ (kind = 2 ∧ ps.length = 0) ∨ (kind = 3 ∧ ps.length = 1))
noncomputable def repl (kind : Int) (ps : List Int) (v : Int) : Int :=
  if kind = 0 then level (pt ps 0) (pt ps 1) v else if kind = 1 then curve ps v else if kind = 3 then (if v < pt ps 0 then 0 else 255) else 255 - v
theorem repl_byte {kind : Int} {ps : List Int} (h : Fits kind ps) {v : Int} (hv : Byte v) : Byte (repl kind ps v) := by
  obtain ⟨hb, ⟨rfl, _, h⟩ | ⟨rfl, h⟩ | ⟨rfl, h⟩ | ⟨rfl, h⟩⟩ := h
  · exact level_byte h
  · obtain ⟨r, hr⟩ := curve_ex h v
    show Byte (curve ps v)
    rw [curve_eq h hr]
    exact curve_byte h hb hr
  · show Byte (255 - v)
    unfold Byte at *
    omega
  · show Byte (if v < pt ps 0 then 0 else 255)
    split <;> decide
end Px
end Go.Proofs.YtfofghakjjblfaaDoor
