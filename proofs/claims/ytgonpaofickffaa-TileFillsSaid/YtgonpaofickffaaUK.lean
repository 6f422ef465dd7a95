/- A plane alone in its arena, written: what lies outside of it, too; pixels up to a place. -/
import Derived.Test.YtgonpaofickffaaUJ
namespace Go.Proofs.Ytgonpaofickffaa
open Go.RowKit Go.Maps
set_option linter.unusedVariables false

/-- What a write to a lone plane leaves, outside of its sizes, too. -/
def Solo2 (w : World) (S : St) (p : Pl) (v : Nat) (R : Nat → Nat → Prop) (e : Ending) (w' : World) : Prop :=
  e = .returned (.int .i64 0) ∧ ∃ S' p', Mod w.heap.size S S' 0 p p' ∧ Rep w' S' ∧ Keeps (Foot S) w w' ∧ Wet S' p' ∧ (∀ x y, x < p.W → y < p.H → (R x y → px S' p' x y = v) ∧ (¬ R x y → px S' p' x y = px S p x y)) ∧ (∀ x y, x < 32768 → y < 32768 → ¬ (x < p.W ∧ y < p.H) → px S' p' x y = px S p x y)
theorem solo2_of {w w' : World} {S : St} {p : Pl} {e : Ending} {xf xt yf yt v : Nat} {R : Nat → Nat → Prop} (h : Rep w S) (hps : S.ps = [p]) (hcap : S.cap = 100) (hW : p.W ≤ 40) (hH : p.H ≤ 40) (hwet : Wet S p) (h1 : xt ≤ p.W) (h2 : yt ≤ p.H) (hv : v ≠ 0 ∨ ∀ x y, Rect xf xt yf yt x y → px S p x y = v)
    (hR : ∀ x y, x < p.W → y < p.H → (Rect xf xt yf yt x y ↔ R x y)) (hw : Wr w S 0 p xf xt yf yt v e w') : Solo2 w S p v R e w' := by
  have hk : S.ps[0]? = some p := by rw [hps]; rfl
  have hfew := few h hk hW hH
  have hlone := h.lone hps
  have hfree : 91 ≤ S.free := by unfold St.free; omega
  rcases hw with ⟨rfl, -, l, nd, hl, hlt⟩ | ⟨rfl, w0, ds, hK, nd, hds, hn, S', p', hWr, hR', hK2⟩
  · have := plc_nine_le nd (fun q hq => by
      obtain ⟨x, y, hi, hj, hr, -⟩ := (chg_px (by omega) (by omega)).1 (hl q hq).1
      unfold Rect at hr
      omega)
    omega
  · refine ⟨rfl, S', p', Mod.of hWr hk hK.size, hR', (hK.mono (fun _ _ h => h.elim) : Keeps (Foot S) w w0).trans hK2 (fun _ _ h => h), hwet.same hWr (fun i j => hds i j) (by omega) (by omega) hv, fun x y hx hy => ?_, fun x y hx hy hn => ?_⟩
    · have hpx := hWr.px (fun i j => hds i j) x y (by omega) (by omega)
      rw [hR x y hx hy] at hpx
      exact hpx
    · refine (hWr.px (fun i j => hds i j) x y hx hy).2 (fun hr => hn ?_)
      unfold Rect at hr
      omega
theorem fill_solo2 (w : World) (S : St) (h : Rep w S) (p : Pl) (hps : S.ps = [p]) (hcap : S.cap = 100) (hW : p.W ≤ 40) (hH : p.H ≤ 40) (hT : ∀ i j, p.T i j = none) (x y n m : Int) (v : Nat) (hx : I64 x) (hy : I64 y) (hn : I64 n) (hm : I64 m) (hv : v ≤ 4294967295) :
    Calls Try.prog 17 #[.pointer (some ⟨p.pb, 0, none⟩), .int .i64 x, .int .i64 y, .int .i64 n, .int .i64 m, .int .i64 (v : Int)] w (Solo2 w S p v (fun a b => Into x n a ∧ Into y m b)) := by
  have hk : S.ps[0]? = some p := by rw [hps]; rfl
  obtain ⟨xf, xt, yf, yt, hX, hY, C⟩ := fill_any17 w S h 0 p hk x y n m v hv hx.1 hx.2 hy.1 hy.2
  have b1 : xt ≤ p.W := by
    unfold clip at hX
    rw [Prod.mk.injEq] at hX
    omega
  have b2 : yt ≤ p.H := by
    unfold clip at hY
    rw [Prod.mk.injEq] at hY
    omega
  refine C.mono (fun e w' hw => solo2_of h hps hcap hW hH (Wet.bare hT) b1 b2 ?_ (fun a b ha hb => ?_) hw)
  · by_cases h0 : v = 0
    · exact .inr (fun a b _ => by rw [h0]; unfold px; rw [hT])
    · exact .inl h0
  · rw [← clip_into hX hx hn hW ha, ← clip_into hY hy hm hH hb]
    unfold Rect
    exact and_assoc.symm
theorem set_solo2 (w : World) (S : St) (h : Rep w S) (p : Pl) (hps : S.ps = [p]) (hcap : S.cap = 100) (hW : p.W ≤ 40) (hH : p.H ≤ 40) (hwet : Wet S p) (x y v : Nat) (hx : x < p.W) (hy : y < p.H) (hv : v ≤ 4294967295) (h0 : v ≠ 0 ∨ px S p x y = v) :
    Calls Try.prog 16 #[.pointer (some ⟨p.pb, 0, none⟩), .int .i64 (x : Int), .int .i64 (y : Int), .int .i64 (v : Int)] w (Solo2 w S p v (fun a b => a = x ∧ b = y)) := by
  have hk : S.ps[0]? = some p := by rw [hps]; rfl
  refine (set_wr w S h 0 p hk x y v hx hy hv).mono (fun e w' hw => solo2_of h hps hcap hW hH hwet (by omega) (by omega) (h0.imp id (fun e a b hr => ?_)) (fun a b _ _ => by unfold Rect; omega) hw)
  obtain rfl : a = x := by unfold Rect at hr; omega
  obtain rfl : b = y := by unfold Rect at hr; omega
  exact e
theorem w64f (n : Int) (h0 : -9223372036854775808 ≤ n) (h1 : n ≤ 9223372036854775807) : wrap64 n = n := by unfold wrap64; omega

/-- The pixels of a rectangle ahead of place i. -/
def Upto (X OW Y OH : Int) (W i a b : Nat) : Prop := b * W + a < i ∧ Into X OW a ∧ Into Y OH b
theorem spot {W i a b : Nat} (ha : a < W) : b * W + a = i ↔ a = i % W ∧ b = i / W := by
  constructor
  · rintro rfl
    rw [Nat.add_comm, Nat.mul_comm, Nat.add_mul_mod_self_left, Nat.mod_eq_of_lt ha, Nat.add_mul_div_left _ _ (by omega), Nat.div_eq_of_lt ha]
    exact ⟨rfl, by omega⟩
  · rintro ⟨rfl, rfl⟩
    rw [Nat.mul_comm]
    exact Nat.div_add_mod i W
theorem upto_no {X OW Y OH : Int} {W i a b : Nat} (hn : ¬ (Into X OW (i % W) ∧ Into Y OH (i / W))) (ha : a < W) : Upto X OW Y OH W (i + 1) a b ↔ Upto X OW Y OH W i a b := by
  unfold Upto
  constructor
  · rintro ⟨h1, h2⟩
    rcases Nat.lt_or_eq_of_le (Nat.le_of_lt_succ h1) with h3 | h3
    · exact ⟨h3, h2⟩
    · obtain ⟨rfl, rfl⟩ := (spot ha).1 h3
      exact absurd h2 hn
  · rintro ⟨h1, h2⟩
    exact ⟨by omega, h2⟩
theorem upto_yes {X OW Y OH : Int} {W i a b : Nat} (hy : Into X OW (i % W) ∧ Into Y OH (i / W)) (ha : a < W) : Upto X OW Y OH W (i + 1) a b ↔ Upto X OW Y OH W i a b ∨ (a = i % W ∧ b = i / W) := by
  unfold Upto
  constructor
  · rintro ⟨h1, h2⟩
    rcases Nat.lt_or_eq_of_le (Nat.le_of_lt_succ h1) with h3 | h3
    · exact .inl ⟨h3, h2⟩
    · exact .inr ((spot ha).1 h3)
  · rintro (⟨h1, h2⟩ | h)
    · exact ⟨by omega, h2⟩
    · have := (spot ha).2 h
      obtain ⟨rfl, rfl⟩ := h
      exact ⟨by omega, hy⟩
/-- Just these have the value v; the others, and all outside, are 0. -/
def Pix (X OW Y OH : Int) (W H v i : Nat) (S : St) (q : Pl) : Prop :=
  (∀ a b, a < W → b < H → (Upto X OW Y OH W i a b → px S q a b = v) ∧ (¬ Upto X OW Y OH W i a b → px S q a b = 0)) ∧ ∀ a b, a < 32768 → b < 32768 → ¬ (a < W ∧ b < H) → px S q a b = 0
theorem zero_or {X OW Y OH : Int} {W H v i : Nat} {S : St} {q : Pl} (h : Pix X OW Y OH W H v i S q) {a b : Nat} (ha : a < W) (hb : b < H) : v ≠ 0 ∨ px S q a b = v := by
  by_cases h0 : v = 0
  · refine .inr ?_
    by_cases hu : Upto X OW Y OH W i a b
    · exact (h.1 a b ha hb).1 hu
    · rw [(h.1 a b ha hb).2 hu, h0]
  · exact .inl h0
theorem pix_start {X OW Y OH : Int} {W H v : Nat} {S : St} {q : Pl} (h : ∀ a b, px S q a b = 0) : Pix X OW Y OH W H v 0 S q :=
  ⟨fun a b _ _ => ⟨fun h => absurd h.1 (Nat.not_lt_zero _), fun _ => h a b⟩, fun a b _ _ _ => h a b⟩
theorem pix_no {X OW Y OH : Int} {W H v i : Nat} {S : St} {q : Pl} (hn : ¬ (Into X OW (i % W) ∧ Into Y OH (i / W))) (h : Pix X OW Y OH W H v i S q) : Pix X OW Y OH W H v (i + 1) S q := by
  refine ⟨fun a b ha hb => ?_, h.2⟩
  have k := upto_no (X := X) (OW := OW) (Y := Y) (OH := OH) (W := W) (i := i) (b := b) hn ha
  exact ⟨fun h1 => (h.1 a b ha hb).1 (k.1 h1), fun h1 => (h.1 a b ha hb).2 (fun h2 => h1 (k.2 h2))⟩
theorem pix_yes {X OW Y OH : Int} {W H v i x y : Nat} {S S' : St} {q q' : Pl} (hW : q.W = W) (hH : q.H = H) (h : Pix X OW Y OH W H v i S q) (hy : Into X OW (i % W) ∧ Into Y OH (i / W)) (hxy : x = i % W ∧ y = i / W)
    (hp : ∀ a b, a < q.W → b < q.H → ((a = x ∧ b = y) → px S' q' a b = v) ∧ (¬ (a = x ∧ b = y) → px S' q' a b = px S q a b)) (ho : ∀ a b, a < 32768 → b < 32768 → ¬ (a < q.W ∧ b < q.H) → px S' q' a b = px S q a b) : Pix X OW Y OH W H v (i + 1) S' q' := by
  rw [hW, hH] at ho
  refine ⟨fun a b ha hb => ?_, fun a b ha hb hn => by rw [ho a b ha hb hn]; exact h.2 a b ha hb hn⟩
  have k := upto_yes (X := X) (OW := OW) (Y := Y) (OH := OH) (W := W) (i := i) (b := b) hy ha
  obtain ⟨p1, p2⟩ := hp a b (by rw [hW]; exact ha) (by rw [hH]; exact hb)
  rw [hxy.1, hxy.2] at p1 p2
  obtain ⟨h1, h2⟩ := h.1 a b ha hb
  by_cases e : a = i % W ∧ b = i / W
  · exact ⟨fun _ => p1 e, fun q => absurd (k.2 (.inr e)) q⟩
  · refine ⟨fun q => ?_, fun q => ?_⟩
    · rw [p2 e]
      exact h1 ((k.1 q).resolve_right e)
    · rw [p2 e]
      exact h2 (fun z => q (k.2 (.inl z)))
/-- A rectangle filled at once, and pixel by pixel. -/
theorem pix_same {X OW Y OH : Int} {W H v M : Nat} {Sa Sb S0 : St} {p p0 q : Pl} (hM : M = W * H) (hW : p0.W = W) (hH : p0.H = H) (h0 : ∀ a b, px S0 p0 a b = 0)
    (hp : ∀ a b, a < p0.W → b < p0.H → ((Into X OW a ∧ Into Y OH b) → px Sa p a b = v) ∧ (¬ (Into X OW a ∧ Into Y OH b) → px Sa p a b = px S0 p0 a b)) (ho : ∀ a b, a < 32768 → b < 32768 → ¬ (a < p0.W ∧ b < p0.H) → px Sa p a b = px S0 p0 a b)
    (h : Pix X OW Y OH W H v M Sb q) : ∀ a b, a < 32768 → b < 32768 → px Sa p a b = px Sb q a b := by
  intro a b ha hb
  rw [hW, hH] at ho
  by_cases hin : a < W ∧ b < H
  · obtain ⟨p1, p2⟩ := hp a b (by rw [hW]; exact hin.1) (by rw [hH]; exact hin.2)
    obtain ⟨q1, q2⟩ := h.1 a b hin.1 hin.2
    have hlt : b * W + a < M := by
      have k := Nat.mul_le_mul_left W (show b + 1 ≤ H by omega)
      rw [Nat.mul_succ, ← hM, Nat.mul_comm] at k
      omega
    by_cases e : Into X OW a ∧ Into Y OH b
    · rw [p1 e, q1 ⟨hlt, e⟩]
    · rw [p2 e, h0, q2 (fun k => e k.2)]
  · rw [ho a b ha hb hin, h0, h.2 a b ha hb hin]
end Go.Proofs.Ytgonpaofickffaa
