/- A whole fill, pixel by pixel. -/
import Derived.Test.YtgonpaofickffaaTQ
import Derived.Test.YtgonpaofickffaaTS
namespace Go.Proofs.Ytgonpaofickffaa
open Go.RowKit Go.Maps
set_option linter.unusedVariables false

theorem px_pixAt (S : St) (p : Pl) (x y : Nat) : px S p x y = pixAt S p (x / 16) (y / 16) (y % 16 * 16 + x % 16) := by
  unfold px pixAt
  cases p.T (x / 16) (y / 16) <;> rfl
/-- A whole fill, pixel by pixel. -/
theorem Wrote.px {B : Nat} {S0 S : St} {k : Nat} {p p' : Pl} {ds : List Plc} {xf xt yf yt v : Nat} (h : Wrote B S0 S k p ds xf xt yf yt v p') (hds : ∀ i j, On ds i j ↔ Chg S0 p xf xt yf yt v i j) (x y : Nat) (hx : x < 32768) (hy : y < 32768) :
    (Rect xf xt yf yt x y → px S p' x y = v) ∧ (¬ Rect xf xt yf yt x y → px S p' x y = px S0 p x y) := by
  have hm := h.mine (x / 16) (y / 16) (x % 16) (y % 16) (by omega) (by omega)
  have ex : x / 16 * 16 + x % 16 = x := by omega
  have ey : y / 16 * 16 + y % 16 = y := by omega
  rw [ex, ey] at hm
  rw [px_pixAt, px_pixAt]
  refine ⟨fun hr => ?_, fun hr => hm.2 (fun h2 => hr h2.2)⟩
  by_cases ho : On ds (x / 16) (y / 16)
  · exact hm.1 ⟨ho, hr⟩
  · rw [hm.2 (fun h2 => ho h2.1)]
    have hn := fun hc => ho ((hds _ _).2 hc)
    by_cases e : pixAt S0 p (x / 16) (y / 16) (y % 16 * 16 + x % 16) = v
    · exact e
    · refine absurd ⟨by omega, by omega, x % 16, y % 16, ?_, e⟩ hn
      unfold Rect at hr
      unfold InArea
      omega
/-- How many tiles are free behind a fill. -/
theorem Wrote.freed {B : Nat} {S0 S : St} {k : Nat} {p p' : Pl} {ds : List Plc} {xf xt yf yt v : Nat} (h : Wrote B S0 S k p ds xf xt yf yt v p') (hn : needs S0 p ds ≤ S0.free) : S.free = S0.free - needs S0 p ds := by
  obtain ⟨fr, f1, f2, -⟩ := h.live
  unfold St.free at *
  rw [f1, h.cap, List.length_append, f2]
  omega
end Go.Proofs.Ytgonpaofickffaa
