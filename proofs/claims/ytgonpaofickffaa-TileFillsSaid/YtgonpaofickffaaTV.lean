/- Set as a fill of one pixel. -/
import Derived.Test.YtgonpaofickffaaTT
import Derived.Test.YtgonpaofickffaaTU
import Derived.Test.YtgonpaofickffaaTM
namespace Go.Proofs.Ytgonpaofickffaa
open Go.RowKit Go.Maps
set_option linter.unusedVariables false

/-- What a write of a rectangle leaves. -/
def Wr (w : World) (S : St) (k : Nat) (p : Pl) (xf xt yf yt v : Nat) (e : Ending) (w' : World) : Prop :=
  (e = .returned (.int .i64 30) ∧ Keeps none' w w' ∧ ∃ l : List Plc, l.Nodup ∧ (∀ q ∈ l, Chg S p xf xt yf yt v q.1.1 q.1.2 ∧ ¬ aloneP S p q.1.1 q.1.2) ∧ S.free < l.length) ∨
  (e = .returned (.int .i64 0) ∧ ∃ w0 ds, Keeps none' w w0 ∧ ds.Nodup ∧ (∀ i j, On ds i j ↔ Chg S p xf xt yf yt v i j) ∧ needs S p ds ≤ S.free ∧ FillAt w0 S k p ds xf xt yf yt v w')

theorem chg_one (S : St) (p : Pl) (x y v i j : Nat) (hx : x < 32768) (hy : y < 32768) : Chg S p x (x + 1) y (y + 1) v i j ↔ i = x / 16 ∧ j = y / 16 ∧ px S p x y ≠ v := by
  rw [px_pixAt]
  constructor
  · rintro ⟨hi, hj, x', y', ⟨h1, h2, h3, h4⟩, hne⟩
    have ei : i = x / 16 := by omega
    have ej : j = y / 16 := by omega
    subst ei ej
    have ex : x' = x % 16 := by omega
    have ey : y' = y % 16 := by omega
    subst ex ey
    exact ⟨rfl, rfl, hne⟩
  · rintro ⟨rfl, rfl, hne⟩
    exact ⟨by omega, by omega, x % 16, y % 16, ⟨by omega, by omega, by omega, by omega⟩, hne⟩
theorem filled_one (f : Nat → Nat) (x y v : Nat) : filled f (x - x / 16 * 16) (min (((x + 1 : Nat) : Int) - ((x / 16 : Nat) : Int) * 16) 16) (y - y / 16 * 16) (min (((y + 1 : Nat) : Int) - ((y / 16 : Nat) : Int) * 16) 16) v = fun j => if j = y % 16 * 16 + x % 16 then v else f j := by
  funext k
  unfold filled
  by_cases h : k = y % 16 * 16 + x % 16
  · rw [if_pos h, if_pos (by omega)]
  · rw [if_neg h, if_neg (by omega)]
theorem paint_back (S : St) (t : Nat) (g : Nat → Nat) : (S.paint t g).paint t (S.pix t) = S := by
  unfold St.paint
  have : (fun t1 => if t1 = t then S.pix t else if t1 = t then g else S.pix t1) = S.pix := by
    funext t1
    by_cases h : t1 = t
    · rw [if_pos h, h]
    · rw [if_neg h, if_neg h]
  simp only [this]
/-- The state ahead of the paint has a world, too. -/
theorem unpaint {w : World} {S : St} {t : Nat} {g : Nat → Nat} (h : Rep w (S.paint t g)) (ht : t ∈ S.live) (hs : ∀ k, S.pix t k ≤ 4294967295) : ∃ w1, Rep w1 S := by
  have hT := h.tile t ht
  obtain ⟨c, h1, h2, h3, h4⟩ := hT
  have hT2 : TileAt (w.setRow t (c.toList.take 1 ++ pixL (S.pix t)).toArray) t (cnt S.ps (S.home t) t) (S.pix t) := setRow_tile h1 h2 h3
  have := h.paint (t := t) ht hs hT2 ((Keeps.refl (fun b => b = t) w).setRow (fun _ => rfl) _)
  rw [paint_back] at this
  exact ⟨_, this⟩
theorem set_wr (w : World) (S : St) (h : Rep w S) (k : Nat) (p : Pl) (hk : S.ps[k]? = some p) (x y v : Nat) (hx : x < p.W) (hy : y < p.H) (hv : v ≤ 4294967295) :
    Calls Try.prog 16 #[.pointer (some ⟨p.pb, 0, none⟩), .int .i64 (x : Int), .int .i64 (y : Int), .int .i64 (v : Int)] w (Wr w S k p x (x + 1) y (y + 1) v) := by
  have hWH := (h.plane k p hk).2.2
  have hx' : x < 32768 := by omega
  have hy' : y < 32768 := by omega
  by_cases hs : px S p x y = v
  · refine (set_same w S h k p hk x y v hx hy hv hs).mono ?_
    rintro e w' ⟨rfl, hK⟩
    refine .inr ⟨rfl, w, [], Keeps.refl _ _, List.nodup_nil, fun i j => ?_, by simp [needs], S, p, Wrote.start hk _ _ _ _ _ _, h.later hK, hK.mono (fun _ _ h => h.elim)⟩
    rw [chg_one S p x y v i j hx' hy']
    exact ⟨fun ⟨_, hm⟩ => by simp at hm, fun ⟨_, _, hne⟩ => absurd hs hne⟩
  · by_cases hro : aloneP S p (x / 16) (y / 16) ∨ S.live.length < S.cap
    · refine (set_does w S h k p hk x y v hx hy hv hs hro).mono ?_
      rintro e w' ⟨rfl, t', S', ho, hR, hK⟩
      have hlt : (x / 16, y / 16).1 < 2048 ∧ (x / 16, y / 16).2 < 2048 := ⟨by simp only; omega, by simp only; omega⟩
      have htl : t' ∈ S'.live ∧ ∀ k, S'.pix t' k ≤ 4294967295 := by
        rcases ho with ⟨⟨t, e1, e2⟩, e3, rfl⟩ | ⟨e1, e2, rfl⟩
        · have := (h.at_ k p hk _ _ t' e3).1
          exact ⟨this, h.small t' this⟩
        · refine ⟨by simp [St.own], fun k1 => ?_⟩
          simp only [St.own, if_true]
          unfold pixAt
          cases e : p.T (x / 16) (y / 16) with
          | none => exact Nat.zero_le _
          | some t => exact h.small t (h.at_ k p hk _ _ t e).1 _
      obtain ⟨w1, hR1⟩ := unpaint hR htl.1 htl.2
      obtain ⟨p'', hW⟩ := (Wrote.start hk w.heap.size x (x + 1) y (y + 1) v).step (hij := hlt) hk h (Nat.le_refl _) (fun ⟨_, hm⟩ => by simp at hm) ho hR1
      rw [filled_one] at hW
      refine .inr ⟨rfl, w, [⟨(x / 16, y / 16), hlt⟩], Keeps.refl _ _, by simp, fun i j => ?_, ?_, _, p'', hW, hR, hK⟩
      · rw [chg_one S p x y v i j hx' hy']
        constructor
        · rintro ⟨_, hm⟩
          simp only [List.mem_singleton, Subtype.mk.injEq, Prod.mk.injEq] at hm
          exact ⟨hm.1, hm.2, hs⟩
        · rintro ⟨rfl, rfl, _⟩
          exact ⟨hlt, by simp⟩
      · have := needs_snoc S p [] ⟨(x / 16, y / 16), hlt⟩
        rw [List.nil_append] at this
        have n0 : needs S p [] = 0 := by simp [needs]
        by_cases ha : aloneP S p (x / 16) (y / 16)
        · rw [this.1 ha, n0]; exact Nat.zero_le _
        · rw [this.2 ha, n0]
          have := hro.resolve_left ha
          have := h.room
          unfold St.free
          omega
    · have hna : ¬ aloneP S p (x / 16) (y / 16) := fun e => hro (.inl e)
      have hf : S.free = 0 := by
        have : ¬ S.live.length < S.cap := fun e => hro (.inr e)
        unfold St.free
        omega
      refine (set_full w S h k p hk x y v hx hy hv hs hna hf).mono ?_
      rintro e w' ⟨rfl, hK⟩
      refine .inl ⟨rfl, hK, [⟨(x / 16, y / 16), ⟨by simp only; omega, by simp only; omega⟩⟩], by simp, fun q hq => ?_, by rw [hf]; simp⟩
      rw [List.mem_singleton] at hq
      subst hq
      exact ⟨(chg_one S p x y v _ _ hx' hy').2 ⟨rfl, rfl, hs⟩, hna⟩
end Go.Proofs.Ytgonpaofickffaa
