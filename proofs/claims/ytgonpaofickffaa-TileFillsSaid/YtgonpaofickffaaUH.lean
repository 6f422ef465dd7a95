/- A plane alone in its arena, written: the contracts that TileFills wants. -/
import Derived.Test.YtgonpaofickffaaUG
namespace Go.Proofs.Ytgonpaofickffaa
open Go.RowKit Go.Maps
set_option linter.unusedVariables false

theorem Wet.same {B : Nat} {S S' : St} {k : Nat} {p p' : Pl} {ds : List Plc} {xf xt yf yt v : Nat} (h : Wet S p) (hw : Wrote B S S' k p ds xf xt yf yt v p') (hds : ∀ i j, On ds i j ↔ Chg S p xf xt yf yt v i j) (h1 : xt ≤ 32768) (h2 : yt ≤ 32768) (hv : v ≠ 0 ∨ ∀ x y, Rect xf xt yf yt x y → px S p x y = v) : Wet S' p' := by
  by_cases h0 : v = 0
  · have hv := hv.resolve_left (fun h => h h0)
    have no : ∀ i j, ¬ On ds i j := by
      intro i j ho
      obtain ⟨x, y, -, -, hR, hne⟩ := (chg_px h1 h2).1 ((hds i j).1 ho)
      exact hne (hv x y hR)
    have hpx : ∀ x y, x < 32768 → y < 32768 → px S' p' x y = px S p x y := by
      intro x y hx hy
      obtain ⟨e1, e2⟩ := hw.px (fun i j => hds i j) x y hx hy
      by_cases hR : Rect xf xt yf yt x y
      · rw [e1 hR, hv x y hR]
      · exact e2 hR
    intro i j
    rw [hw.out i j (no i j), h i j]
    constructor
    · rintro ⟨x, y, hx, hy, hi, hj, hne⟩
      exact ⟨x, y, hx, hy, hi, hj, by rw [hpx x y hx hy]; exact hne⟩
    · rintro ⟨x, y, hx, hy, hi, hj, hne⟩
      exact ⟨x, y, hx, hy, hi, hj, by rw [← hpx x y hx hy]; exact hne⟩
  · exact h.wrote hw hds h1 h2 h0
/-- Which pixels of a stretch are meant. -/
def Into (x n : Int) (a : Nat) : Prop := 0 < n ∧ x ≤ a ∧ ((0 ≤ x ∧ (a : Int) - x < n) ∨ (x < 0 ∧ (a : Int) < n + x))
theorem clip_into {x n : Int} {W f t a : Nat} (hc : clip x n (W : Int) = ((f : Int), (t : Int))) (hx : I64 x) (hn : I64 n) (hW : W ≤ 40) (ha : a < W) : (f ≤ a ∧ a < t) ↔ Into x n a := by
  unfold clip at hc
  rw [Prod.mk.injEq] at hc
  unfold I64 at hx hn
  unfold Into
  omega
theorem few {w : World} {S : St} {k : Nat} {p : Pl} (h : Rep w S) (hk : S.ps[k]? = some p) (hW : p.W ≤ 40) (hH : p.H ≤ 40) : p.L.length ≤ 9 := by
  have tab := (h.plane k p hk).2.1
  refine nine_le tab.nd (fun i j hq => ?_)
  cases e : p.T i j with
  | none => exact absurd e ((tab.ls i j).1 hq)
  | some t =>
    have := h.at_ k p hk i j t e
    omega

/-- What a write to a lone plane leaves. -/
def Solo (w : World) (S : St) (p : Pl) (v : Nat) (R : Nat → Nat → Prop) (e : Ending) (w' : World) : Prop :=
  e = .returned (.int .i64 0) ∧ ∃ S' p', Mod w.heap.size S S' 0 p p' ∧ Rep w' S' ∧ Keeps (Foot S) w w' ∧ Wet S' p' ∧ ∀ x y, x < p.W → y < p.H → (R x y → px S' p' x y = v) ∧ (¬ R x y → px S' p' x y = px S p x y)
theorem solo_of {w w' : World} {S : St} {p : Pl} {e : Ending} {xf xt yf yt v : Nat} {R : Nat → Nat → Prop} (h : Rep w S) (hps : S.ps = [p]) (hcap : S.cap = 100) (hW : p.W ≤ 40) (hH : p.H ≤ 40) (hwet : Wet S p) (h1 : xt ≤ p.W) (h2 : yt ≤ p.H) (hv : v ≠ 0 ∨ ∀ x y, Rect xf xt yf yt x y → px S p x y = v)
    (hR : ∀ x y, x < p.W → y < p.H → (Rect xf xt yf yt x y ↔ R x y)) (hw : Wr w S 0 p xf xt yf yt v e w') : Solo w S p v R e w' := by
  have hk : S.ps[0]? = some p := by rw [hps]; rfl
  have hfew := few h hk hW hH
  have hlone := h.lone hps
  have hfree : 91 ≤ S.free := by unfold St.free; omega
  rcases hw with ⟨rfl, -, l, nd, hl, hlt⟩ | ⟨rfl, w0, ds, hK, nd, hds, hn, S', p', hWr, hR', hK2⟩
  · have := plc_nine_le nd (fun q hq => by
      obtain ⟨x, y, hi, hj, hr, -⟩ := (chg_px (by omega) (by omega)).1 (hl q hq).1
      unfold Rect at hr
      omega)
    omega
  · refine ⟨rfl, S', p', Mod.of hWr hk hK.size, hR', (hK.mono (fun _ _ h => h.elim) : Keeps (Foot S) w w0).trans hK2 (fun _ _ h => h), hwet.same hWr (fun i j => hds i j) (by omega) (by omega) hv, fun x y hx hy => ?_⟩
    have hpx := hWr.px (fun i j => hds i j) x y (by omega) (by omega)
    rw [hR x y hx hy] at hpx
    exact hpx
theorem fill_solo (w : World) (S : St) (h : Rep w S) (p : Pl) (hps : S.ps = [p]) (hcap : S.cap = 100) (hW : p.W ≤ 40) (hH : p.H ≤ 40) (hT : ∀ i j, p.T i j = none) (x y n m : Int) (v : Nat) (hx : I64 x) (hy : I64 y) (hn : I64 n) (hm : I64 m) (hv : v ≤ 4294967295) :
    Calls Try.prog 17 #[.pointer (some ⟨p.pb, 0, none⟩), .int .i64 x, .int .i64 y, .int .i64 n, .int .i64 m, .int .i64 (v : Int)] w (Solo w S p v (fun a b => Into x n a ∧ Into y m b)) := by
  have hk : S.ps[0]? = some p := by rw [hps]; rfl
  obtain ⟨xf, xt, yf, yt, hX, hY, C⟩ := fill_any17 w S h 0 p hk x y n m v hv hx.1 hx.2 hy.1 hy.2
  have b1 : xt ≤ p.W := by
    unfold clip at hX
    rw [Prod.mk.injEq] at hX
    omega
  have b2 : yt ≤ p.H := by
    unfold clip at hY
    rw [Prod.mk.injEq] at hY
    omega
  refine C.mono (fun e w' hw => solo_of h hps hcap hW hH (Wet.bare hT) b1 b2 ?_ (fun a b ha hb => ?_) hw)
  · by_cases h0 : v = 0
    · exact .inr (fun a b _ => by rw [h0]; unfold px; rw [hT])
    · exact .inl h0
  · rw [← clip_into hX hx hn hW ha, ← clip_into hY hy hm hH hb]
    unfold Rect
    exact and_assoc.symm
theorem set_solo (w : World) (S : St) (h : Rep w S) (p : Pl) (hps : S.ps = [p]) (hcap : S.cap = 100) (hW : p.W ≤ 40) (hH : p.H ≤ 40) (hwet : Wet S p) (x y v : Nat) (hx : x < p.W) (hy : y < p.H) (hv : v ≤ 4294967295) (h0 : v ≠ 0 ∨ px S p x y = v) :
    Calls Try.prog 16 #[.pointer (some ⟨p.pb, 0, none⟩), .int .i64 (x : Int), .int .i64 (y : Int), .int .i64 (v : Int)] w (Solo w S p v (fun a b => a = x ∧ b = y)) := by
  have hk : S.ps[0]? = some p := by rw [hps]; rfl
  refine (set_wr w S h 0 p hk x y v hx hy hv).mono (fun e w' hw => solo_of h hps hcap hW hH hwet (by omega) (by omega) (h0.imp id (fun e a b hr => ?_)) (fun a b _ _ => by unfold Rect; omega) hw)
  obtain rfl : a = x := by unfold Rect at hr; omega
  obtain rfl : b = y := by unfold Rect at hr; omega
  exact e
/-- As many tiles are free. -/
theorem free_solo {w : World} {S : St} {p : Pl} (h : Rep w S) (hps : S.ps = [p]) (hcap : S.cap = 100) : S.free = 100 - p.L.length := by
  unfold St.free
  rw [h.lone hps, hcap]
end Go.Proofs.Ytgonpaofickffaa
