/- A plane that is alone in its arena: its tiles are those with a pixel that isn't 0. -/
import Derived.Test.YtgonpaofickffaaUE
namespace Go.Proofs.Ytgonpaofickffaa
open Go.RowKit Go.Maps
set_option linter.unusedVariables false

theorem Rep.lone {w : World} {S : St} {p : Pl} (h : Rep w S) (hps : S.ps = [p]) : S.live.length = p.L.length := by
  have hk : S.ps[0]? = some p := by rw [hps]; rfl
  have tab := (h.plane 0 p hk).2.1
  have hT : ∀ t ∈ S.live, p.T (S.home t).1 (S.home t).2 = some t := by
    intro t ht
    have h1 := h.used t ht
    unfold cnt at h1
    rw [hps] at h1
    obtain ⟨q, hq, he⟩ := List.countP_pos_iff.1 h1
    obtain rfl := List.mem_singleton.1 hq
    simpa using he
  refine Nat.le_antisymm (pigeon S.home S.live p.L h.nd (fun a ha b hb e => ?_) (fun t ht => ?_)) (h.len hk)
  · have h1 := hT a ha
    have h2 := hT b hb
    rw [e, h2] at h1
    exact (Option.some.inj h1).symm
  · exact (tab.ls _ _).2 (by rw [hT t ht]; exact fun hc => by cases hc)
/-- The tiles are those with a pixel that isn't 0. -/
def Wet (S : St) (p : Pl) : Prop := ∀ i j, p.T i j ≠ none ↔ ∃ x y, x < 32768 ∧ y < 32768 ∧ x / 16 = i ∧ y / 16 = j ∧ px S p x y ≠ 0
theorem Wet.bare {S : St} {p : Pl} (hT : ∀ i j, p.T i j = none) : Wet S p := by
  intro i j
  refine ⟨fun h => absurd (hT i j) h, ?_⟩
  rintro ⟨x, y, -, -, -, -, h⟩
  exact absurd (by unfold px; rw [hT]) h
theorem chg_px {S : St} {p : Pl} {xf xt yf yt v i j : Nat} (h1 : xt ≤ 32768) (h2 : yt ≤ 32768) : Chg S p xf xt yf yt v i j ↔ ∃ x y, x / 16 = i ∧ y / 16 = j ∧ Rect xf xt yf yt x y ∧ px S p x y ≠ v := by
  unfold Chg InArea Rect
  constructor
  · rintro ⟨hi, hj, a, b, hA, hne⟩
    refine ⟨i * 16 + a, j * 16 + b, by omega, by omega, by omega, ?_⟩
    rw [px_pixAt, show (i * 16 + a) / 16 = i by omega, show (j * 16 + b) / 16 = j by omega, show (i * 16 + a) % 16 = a by omega, show (j * 16 + b) % 16 = b by omega]
    exact hne
  · rintro ⟨x, y, rfl, rfl, hR, hne⟩
    rw [px_pixAt] at hne
    exact ⟨by omega, by omega, x % 16, y % 16, by omega, hne⟩
theorem Wet.wrote {B : Nat} {S S' : St} {k : Nat} {p p' : Pl} {ds : List Plc} {xf xt yf yt v : Nat} (h : Wet S p) (hw : Wrote B S S' k p ds xf xt yf yt v p') (hds : ∀ i j, On ds i j ↔ Chg S p xf xt yf yt v i j) (h1 : xt ≤ 32768) (h2 : yt ≤ 32768) (hv : v ≠ 0) : Wet S' p' := by
  have hpx := fun x y hx hy => hw.px (fun i j => hds i j) x y hx hy
  intro i j
  by_cases ho : On ds i j
  · obtain ⟨t, e, -⟩ := hw.on i j ho
    refine ⟨fun _ => ?_, fun _ => by rw [e]; exact fun hc => by cases hc⟩
    obtain ⟨x, y, hi, hj, hR, -⟩ := (chg_px h1 h2).1 ((hds i j).1 ho)
    have hx : x < 32768 ∧ y < 32768 := by unfold Rect at hR; omega
    exact ⟨x, y, hx.1, hx.2, hi, hj, by rw [(hpx x y hx.1 hx.2).1 hR]; exact hv⟩
  · rw [hw.out i j ho, h i j]
    have same : ∀ x y, x < 32768 → y < 32768 → x / 16 = i → y / 16 = j → px S' p' x y = px S p x y := by
      intro x y hx hy hi hj
      by_cases hR : Rect xf xt yf yt x y
      · rw [(hpx x y hx hy).1 hR]
        by_cases he : px S p x y = v
        · exact he.symm
        · exact absurd ((hds i j).2 ((chg_px h1 h2).2 ⟨x, y, hi, hj, hR, he⟩)) ho
      · exact (hpx x y hx hy).2 hR
    constructor
    · rintro ⟨x, y, hx, hy, hi, hj, hne⟩
      exact ⟨x, y, hx, hy, hi, hj, by rw [same x y hx hy hi hj]; exact hne⟩
    · rintro ⟨x, y, hx, hy, hi, hj, hne⟩
      exact ⟨x, y, hx, hy, hi, hj, by rw [← same x y hx hy hi hj]; exact hne⟩
/-- Two such planes with the same pixels have as many tiles. -/
theorem Wet.tiles {w w' : World} {S S' : St} {k k' : Nat} {p p' : Pl} (h : Wet S p) (h' : Wet S' p') (hr : Rep w S) (hr' : Rep w' S') (hk : S.ps[k]? = some p) (hk' : S'.ps[k']? = some p') (e : ∀ x y, x < 32768 → y < 32768 → px S p x y = px S' p' x y) : p.L.length = p'.L.length := by
  have t := (hr.plane k p hk).2.1
  have t' := (hr'.plane k' p' hk').2.1
  have hT : ∀ i j, p.T i j ≠ none ↔ p'.T i j ≠ none := by
    intro i j
    rw [h i j, h' i j]
    constructor
    · rintro ⟨x, y, hx, hy, hi, hj, hne⟩
      exact ⟨x, y, hx, hy, hi, hj, by rw [← e x y hx hy]; exact hne⟩
    · rintro ⟨x, y, hx, hy, hi, hj, hne⟩
      exact ⟨x, y, hx, hy, hi, hj, by rw [e x y hx hy]; exact hne⟩
  exact Nat.le_antisymm (t.nd.length_le_of_subset (fun q hq => (t'.ls q.1 q.2).2 ((hT _ _).1 ((t.ls q.1 q.2).1 hq)))) (t'.nd.length_le_of_subset (fun q hq => (t.ls q.1 q.2).2 ((hT _ _).2 ((t'.ls q.1 q.2).1 hq))))
end Go.Proofs.Ytgonpaofickffaa
