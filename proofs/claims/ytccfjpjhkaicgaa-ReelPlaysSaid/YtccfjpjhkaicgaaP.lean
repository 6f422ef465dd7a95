/- A crash of the document's reel. -/
import Derived.Test.YtccfjpjhkaicgaaO
namespace Go.Proofs.Ytccfjpjhkaicgaa
open Go.RowKit

theorem mix_get (xs gs : List Int) (p q i j : Nat) : (mix xs gs p q i)[j]? = if p ≤ j ∧ j < p + i then xs[j]?.map (fun x => xr x (gs.getD (q + (j - p)) 0)) else xs[j]? := by
  induction i with
  | zero => rw [if_neg (by omega)]; rfl
  | succ i ih =>
    simp only [mix]
    by_cases hj : j = p + i
    · subst hj
      rw [if_pos (by omega), show p + i - p = i by omega]
      by_cases hl : p + i < xs.length
      · rw [List.getElem?_set_self (by rw [mix_length]; exact hl), List.getElem?_eq_getElem hl, List.getD_eq_getElem?_getD, List.getElem?_eq_getElem hl]
        rfl
      · rw [List.getElem?_eq_none (by rw [List.length_set, mix_length]; omega), List.getElem?_eq_none (by omega)]
        rfl
    · rw [List.getElem?_set_ne (by omega), ih]
      by_cases h1 : p ≤ j ∧ j < p + i
      · rw [if_pos h1, if_pos (by omega)]
      · rw [if_neg h1, if_neg (by omega)]

/-- From the end on: one byte more. -/
theorem mix_back (xs gs : List Int) (t n j : Nat) (ht : j + 1 ≤ t) (hn : j + 1 ≤ n) (x y : Int) (hx : xs[t - (j + 1)]? = some x) (hy : gs[n - (j + 1)]? = some y) :
    mix xs gs (t - (j + 1)) (n - (j + 1)) (j + 1) = (mix xs gs (t - j) (n - j) j).set (t - (j + 1)) (xr x y) := by
  apply List.ext_getElem?
  intro i
  have hl : t - (j + 1) < xs.length := (List.getElem?_eq_some_iff.1 hx).1
  rw [mix_get]
  by_cases h0 : i = t - (j + 1)
  · subst h0
    rw [if_pos (by omega), List.getElem?_set_self (by rw [mix_length]; exact hl), hx, show t - (j + 1) - (t - (j + 1)) = 0 by omega, Nat.add_zero, List.getD_eq_getElem?_getD, hy]
    rfl
  · rw [List.getElem?_set_ne (by omega), mix_get]
    by_cases h1 : t - j ≤ i ∧ i < t - j + j
    · rw [if_pos (by omega), if_pos h1, show n - (j + 1) + (i - (t - (j + 1))) = n - j + (i - (t - j)) by omega]
    · rw [if_neg (by omega), if_neg h1]

theorem src_cell {w : World} {a : Option Addr} {n : Nat} {ys : List Int} (h : Src w a n ys) {j : Nat} {x : Int} (hj : ys[j]? = some x) :
    ∃ b off, a = some ⟨b, off, none⟩ ∧ w.cell? ⟨b, off + j, none⟩ = some (.int .u8 x) := by
  obtain ⟨h1, _, h2⟩ := h
  have hl := (List.getElem?_eq_some_iff.1 hj).1
  rcases h2 with ⟨_, h2⟩ | ⟨ad, rfl, hc⟩
  · omega
  · obtain ⟨b, off, spot⟩ := ad
    have hsp : spot = none := by
      have e1 : ys[0]? = some (ys[0]'(by omega)) := List.getElem?_eq_getElem (by omega)
      have e2 := hc 0 _ (by rw [List.getElem?_map, e1]; rfl)
      simpa [Addr.add] using World.cell?_spot e2
    subst hsp
    refine ⟨b, off, rfl, ?_⟩
    have e2 := hc j (.int .u8 x) (by rw [List.getElem?_map, hj]; rfl)
    have h3 : ((⟨b, off, none⟩ : Addr).add j) = ⟨b, off + j, none⟩ := by
      unfold Addr.add
      split
      · rename_i h; subst h; rfl
      · rfl
    rw [h3] at e2
    exact e2

/-- Behind a crash of the document's reel. -/
def TwinCrashed (w : World) (B T : Nat) (m' : M) (e : Ending) (w' : World) : Prop :=
  e = .returned (.tuple #[]) ∧ ∃ k, Twin w' B T (some k) m' ∧ Keeps (fun k => k = T) w w' ∧ w.heap.size ≤ k

/-- What the second loop keeps. -/
def Backed (w2 : World) (g sz t : Nat) (xs gs : List Int) (n : Nat) (j : Nat) (wr : World) : Prop :=
  Row wr g sz t (mix xs gs (t - j) (n - j) j) ∧ Keeps (fun k => k = g) w2 wr

theorem Backed.step {w2 wr : World} {g sz t n j : Nat} {xs gs : List Int} {x y : Int} (h : Backed w2 g sz t xs gs n j wr) (ht : j + 1 ≤ t) (hn : j + 1 ≤ n) (hx : xs[t - (j + 1)]? = some x) (hy : gs[n - (j + 1)]? = some y) :
    Backed w2 g sz t xs gs n (j + 1) (wr.setCell ⟨g, t - (j + 1), none⟩ (.int .u8 (bits .xor .u8 x y))).drew := by
  obtain ⟨h1, h2⟩ := h
  refine ⟨?_, (h2.setCell (p := ⟨g, t - (j + 1), none⟩) (fun _ => rfl) _).drew⟩
  rw [mix_back xs gs t n j ht hn x y hx hy]
  exact (h1.set (t - (j + 1)) _).same rfl

/-- The four stores. -/
theorem twin_end {w w2 wr : World} {B T g cap t : Nat} {m : M} {E : Option Nat} {k : Nat} {keep : Int} {gs : List Int} (h : Twin w B T E m) (hB : B ≤ w.heap.size)
    (hk2 : Keeps (fun k => w.heap.size ≤ k) w w2) (hg : w.heap.size ≤ g) (hg2 : g < w2.heap.size) (hcap : t ≤ cap ∧ cap ≤ maxLen)
    (hb : Backed w2 g cap t (m.xs.take t) gs gs.length k wr) (hm : m.crash keep gs = { cap := m.cap, xs := mix (m.xs.take t) gs (t - k) (gs.length - k) k, safe := t, left := -1, down := false }) (ok : (m.crash keep gs).Ok) (hlt : (m.xs.take t).length = t) :
    TwinCrashed w B T (m.crash keep gs) (.returned (.tuple #[])) ((((wr.setCell ⟨T, 0, none⟩ (.slice (some ⟨g, 0, none⟩) t cap)).setCell ⟨T, 2, none⟩ (.int .i64 t)).setCell ⟨T, 4, none⟩ (.bool false)).setCell ⟨T, 5, none⟩ (.bool false)) := by
  have hT := h.lt
  obtain ⟨c, l', hbT, hl, hs, hf⟩ := h.holds
  obtain ⟨hrow, hkr⟩ := hb
  have hkw : Keeps (fun k => w.heap.size ≤ k) w wr := hk2.trans hkr (fun i hi e => by omega)
  have hT' : wr.heap[T]? = w.heap[T]? := hkw.block T hT (by omega)
  have hlm : (mix (m.xs.take t) gs (t - k) (gs.length - k) k).length = t := by rw [mix_length, hlt]
  have hgr : g < wr.heap.size := Nat.lt_of_lt_of_le hg2 hkr.size
  refine ⟨rfl, g, ?_, ?_, hg⟩
  · rw [hm] at ok ⊢
    refine ⟨ok, h.at_, ⟨cap, l', ?_, ?_, ?_, ?_⟩, ?_, ?_⟩
    · rw [block_set (block_set (block_set (block_set (hT'.trans hbT) _) _) _) _]
      simp [headOf, hlm]
    · intro h; simp at h
    · have hsrc : Src wr (headOf (some g)) t (mix (m.xs.take t) gs (t - k) (gs.length - k) k) := by
        obtain ⟨cur, h1, h2, h3⟩ := hrow
        refine ⟨hlm, ok.byte, Or.inr ⟨_, rfl, ?_⟩⟩
        have k1 := cell_at (at_ := 0) (n := t) h1 h3
        rw [List.drop_zero, List.take_of_length_le (by omega)] at k1
        exact k1
      rw [hlm]
      have ne : ∀ ad, headOf (some g) = some ad → ad.block ≠ T := by
        intro ad e
        cases e
        simp only
        omega
      exact (((hsrc.setOther (p := ⟨T, 0, none⟩) ne _).setOther (p := ⟨T, 2, none⟩) ne _).setOther (p := ⟨T, 4, none⟩) ne _).setOther (p := ⟨T, 5, none⟩) ne _
    · rw [hlm]; exact ⟨hcap.1, hcap.2, fun e => by cases e⟩
    · intro k e
      cases e
      refine ⟨by omega, ?_⟩
      simp only [World.setCell, Array.size_modify]
      exact hgr
    · intro e; cases e; omega
  · exact ((((hkw.mono (S1 := fun k => k = T) (fun i hi e => by omega)).setCell (p := ⟨T, 0, none⟩) (fun _ => rfl) _).setCell (p := ⟨T, 2, none⟩) (fun _ => rfl) _).setCell (p := ⟨T, 4, none⟩) (fun _ => rfl) _).setCell (p := ⟨T, 5, none⟩) (fun _ => rfl) _

theorem crash_ok {m : M} (h : m.Ok) (keep : Int) (gs : List Int) (hg : ∀ y ∈ gs, 0 ≤ y ∧ y ≤ 255) : (m.crash keep gs).Ok := by
  have h1 := h.len
  have h2 := h.safe0
  have h3 := h.safe1
  have hn : ((min (max keep 0) ((m.xs.length : Int) - m.safe)).toNat : Int) ≤ (m.xs.length : Int) - m.safe := by omega
  unfold M.crash
  refine ⟨h.cap0, h.cap1, ?_, by simp only; omega, ?_, by simp, by simp, ?_⟩
  · simp only [mix_length, List.length_take]; omega
  · simp only [mix_length, List.length_take]; omega
  · refine mix_byte (fun x hx => h.byte x (List.mem_of_mem_take hx)) hg _ _ _ ?_ (by omega)
    simp only [List.length_take]
    omega
end Go.Proofs.Ytccfjpjhkaicgaa
