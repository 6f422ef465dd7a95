/- Crash of a reel whose list of bytes is nil; the contract of Crash for every reel. -/
import Derived.Test.YthddjfaeacmlhaaDoorRH
namespace Go.Proofs.YthddjfaeacmlhaaDoor.Re
open Go.RowKit

def CrashedNil (w : World) (R : Nat) (cap : Int) (e : Ending) (w' : World) : Prop :=
  e = .returned (.tuple #[]) ∧ w'.heap[R]? = some (.cells #[.int .i64 cap, .slice none 0 0, .int .i64 0, .int .i64 (-1), .bool false] 59 (0, 0)) ∧ Keeps (fun k => k = R) w w'

theorem crashNil_end {w w2 : World} {R : Nat} {cap s0 left : Int} {down : Bool}
    (hb : w2.heap[R]? = some (.cells #[.int .i64 cap, .slice none 0 0, .int .i64 s0, .int .i64 left, .bool down] 59 (0, 0)))
    (hk2 : Keeps (fun k => k = R) w w2) (n : Nat) :
    CrashedNil w R cap (.returned (.tuple #[])) ((((w2.setCell ⟨R, 2, none⟩ (.int .i64 0)).setCell ⟨R, 3, none⟩ (.int .i64 (-1))).setCell ⟨R, 4, none⟩ (.bool false)).drewN n) := by
  refine ⟨rfl, ?_, ?_⟩
  · show (((w2.setCell ⟨R, 2, none⟩ (.int .i64 0)).setCell ⟨R, 3, none⟩ (.int .i64 (-1))).setCell ⟨R, 4, none⟩ (.bool false)).heap[R]? = _
    rw [block_set (block_set (block_set hb _) _) _]
    simp
  · exact (((hk2.setCell (p := ⟨R, 2, none⟩) (fun _ => rfl) _).setCell (p := ⟨R, 3, none⟩) (fun _ => rfl) _).setCell (p := ⟨R, 4, none⟩) (fun _ => rfl) _).drewN _

set_option maxHeartbeats 800000 in
theorem crashNil_low (w : World) (R : Nat) (cap : Int) (keep : Int) (left : Int) (down : Bool) (a2 : Option Addr) (ng d : Nat) (hk : keep < 0)
    (hb : w.heap[R]? = some (.cells #[.int .i64 cap, .slice none 0 0, .int .i64 0, .int .i64 left, .bool down] 59 (0, 0))) (hd : ng ≤ d) (hdm : d ≤ maxLen) (ha0 : a2 = none → d = 0) :
    Calls Tryd.prog 20 #[.pointer (some ⟨R, 0, none⟩), .int .i64 keep, .slice a2 ng d] w (CrashedNil w R cap) := by
  obtain ⟨h0, h1, h2, h3, h4⟩ := reel_cells hb
  have f1 := reel_free hb 1
  have A := Lib.hid hb
  have F := Lib.hid (fun (x : World) => xorEnd_zero x none a2 0 0 ng d (Or.inl rfl) (by omega) hd (fun _ => rfl) ha0 (by unfold maxLen; omega) hdm)
  clear hb ha0
  go_enter Tryd.func20, Tryd.ntmps20
  go_wp2
  go_quiet (fail)
  go_wp2
  go_region
  go_wp2
  have c1 : ((w.drewN (nq + 1)).setCell ⟨R, 1, none⟩ (.slice none 0 0)).cell? ⟨R, 1, none⟩ = some (.slice none 0 0) := World.cell?_setCell_same _ _ _ (show (w.drewN (nq + 1)).cell? ⟨R, 1, none⟩ = some _ from h1)
  have c2 : ((w.drewN (nq + 1)).setCell ⟨R, 1, none⟩ (.slice none 0 0)).cell? ⟨R, 2, none⟩ = some (.int .i64 0) := by rw [World.cell?_setCell_other _ _ _ _ (by simp)]; exact h2
  generalize hW : (w.drewN (nq + 1)).setCell ⟨R, 1, none⟩ (.slice none 0 0) = W1 at *
  have c1' : ({ heap := W1.heap, tape := W1.tape, drawn := W1.drawn + 1, os := W1.os, output := W1.output } : World).cell? ⟨R, 1, none⟩ = some (.slice none 0 0) := c1
  have c2' : ({ heap := W1.heap, tape := W1.tape, drawn := W1.drawn + 1, os := W1.os, output := W1.output } : World).cell? ⟨R, 2, none⟩ = some (.int .i64 0) := c2
  have HW := Lib.hid hW
  clear hW h0 h1 h2 h3 h4 f1
  go_still_tail 10, (by kernel_rfl)
  change wpList _ _ _ _ _ W1.drew
  generalize hW2 : W1.drew = w2
  have B2 := Lib.hid (show w2.heap[R]? = some (.cells #[.int .i64 cap, .slice none 0 0, .int .i64 0, .int .i64 left, .bool down] 59 (0, 0)) ∧ Keeps (fun k => k = R) w w2 by
    have hb := A.out
    refine ⟨?_, ?_⟩
    · rw [← hW2, ← HW.out]
      exact (block_set (w := w.drewN (nq + 1)) (show (w.drewN (nq + 1)).heap[R]? = _ from hb) _).trans (by simp)
    · rw [← hW2, ← HW.out]
      exact (((Keeps.refl (fun k => k = R) w).drewN (nq + 1)).setCell (p := ⟨R, 1, none⟩) (fun _ => rfl) _).drew)
  clear c1 c2 c1' c2' hW2 HW
  go_wp2_with fail
  refine (F.out _).mono ?_
  rintro e w3 ⟨rfl, n, rfl⟩
  obtain ⟨hb2, hk2⟩ := B2.out
  obtain ⟨d0, d1, d2, d3, d4⟩ := reel_cells hb2
  have g2 := reel_free hb2 2
  have g3 := reel_free hb2 3
  have g4 := reel_free hb2 4
  have X := Lib.hid (crashNil_end hb2 hk2 n)
  clear hb2 hk2
  go_wp2_with fail
  go_end0
  exact X.out

set_option maxHeartbeats 800000 in
theorem crashNil_mid (w : World) (R : Nat) (cap : Int)  (left : Int) (down : Bool) (a2 : Option Addr) (ng d : Nat) 
    (hb : w.heap[R]? = some (.cells #[.int .i64 cap, .slice none 0 0, .int .i64 0, .int .i64 left, .bool down] 59 (0, 0))) (hd : ng ≤ d) (hdm : d ≤ maxLen) (ha0 : a2 = none → d = 0) :
    Calls Tryd.prog 20 #[.pointer (some ⟨R, 0, none⟩), .int .i64 0, .slice a2 ng d] w (CrashedNil w R cap) := by
  obtain ⟨h0, h1, h2, h3, h4⟩ := reel_cells hb
  have f1 := reel_free hb 1
  have A := Lib.hid hb
  have F := Lib.hid (fun (x : World) => xorEnd_zero x none a2 0 0 ng d (Or.inl rfl) (by omega) hd (fun _ => rfl) ha0 (by unfold maxLen; omega) hdm)
  clear hb ha0
  go_enter Tryd.func20, Tryd.ntmps20
  go_wp2
  go_quiet (fail)
  go_wp2
  go_region
  go_wp2
  have c1 : ((w.drewN (nq + 1)).setCell ⟨R, 1, none⟩ (.slice none 0 0)).cell? ⟨R, 1, none⟩ = some (.slice none 0 0) := World.cell?_setCell_same _ _ _ (show (w.drewN (nq + 1)).cell? ⟨R, 1, none⟩ = some _ from h1)
  have c2 : ((w.drewN (nq + 1)).setCell ⟨R, 1, none⟩ (.slice none 0 0)).cell? ⟨R, 2, none⟩ = some (.int .i64 0) := by rw [World.cell?_setCell_other _ _ _ _ (by simp)]; exact h2
  generalize hW : (w.drewN (nq + 1)).setCell ⟨R, 1, none⟩ (.slice none 0 0) = W1 at *
  have c1' : ({ heap := W1.heap, tape := W1.tape, drawn := W1.drawn + 1, os := W1.os, output := W1.output } : World).cell? ⟨R, 1, none⟩ = some (.slice none 0 0) := c1
  have c2' : ({ heap := W1.heap, tape := W1.tape, drawn := W1.drawn + 1, os := W1.os, output := W1.output } : World).cell? ⟨R, 2, none⟩ = some (.int .i64 0) := c2
  have HW := Lib.hid hW
  clear hW h0 h1 h2 h3 h4 f1
  go_still_tail 10, (by kernel_rfl)
  change wpList _ _ _ _ _ W1.drew
  generalize hW2 : W1.drew = w2
  have B2 := Lib.hid (show w2.heap[R]? = some (.cells #[.int .i64 cap, .slice none 0 0, .int .i64 0, .int .i64 left, .bool down] 59 (0, 0)) ∧ Keeps (fun k => k = R) w w2 by
    have hb := A.out
    refine ⟨?_, ?_⟩
    · rw [← hW2, ← HW.out]
      exact (block_set (w := w.drewN (nq + 1)) (show (w.drewN (nq + 1)).heap[R]? = _ from hb) _).trans (by simp)
    · rw [← hW2, ← HW.out]
      exact (((Keeps.refl (fun k => k = R) w).drewN (nq + 1)).setCell (p := ⟨R, 1, none⟩) (fun _ => rfl) _).drew)
  clear c1 c2 c1' c2' hW2 HW
  go_wp2_with fail
  refine (F.out _).mono ?_
  rintro e w3 ⟨rfl, n, rfl⟩
  obtain ⟨hb2, hk2⟩ := B2.out
  obtain ⟨d0, d1, d2, d3, d4⟩ := reel_cells hb2
  have g2 := reel_free hb2 2
  have g3 := reel_free hb2 3
  have g4 := reel_free hb2 4
  have X := Lib.hid (crashNil_end hb2 hk2 n)
  clear hb2 hk2
  go_wp2_with fail
  go_end0
  exact X.out

set_option maxHeartbeats 800000 in
theorem crashNil_high (w : World) (R : Nat) (cap : Int) (keep : Int) (left : Int) (down : Bool) (a2 : Option Addr) (ng d : Nat) (hk : 0 < keep)
    (hb : w.heap[R]? = some (.cells #[.int .i64 cap, .slice none 0 0, .int .i64 0, .int .i64 left, .bool down] 59 (0, 0))) (hd : ng ≤ d) (hdm : d ≤ maxLen) (ha0 : a2 = none → d = 0) :
    Calls Tryd.prog 20 #[.pointer (some ⟨R, 0, none⟩), .int .i64 keep, .slice a2 ng d] w (CrashedNil w R cap) := by
  obtain ⟨h0, h1, h2, h3, h4⟩ := reel_cells hb
  have f1 := reel_free hb 1
  have A := Lib.hid hb
  have F := Lib.hid (fun (x : World) => xorEnd_zero x none a2 0 0 ng d (Or.inl rfl) (by omega) hd (fun _ => rfl) ha0 (by unfold maxLen; omega) hdm)
  clear hb ha0
  go_enter Tryd.func20, Tryd.ntmps20
  go_wp2
  go_quiet (fail)
  go_wp2
  go_region
  go_wp2
  have c1 : ((w.drewN (nq + 1)).setCell ⟨R, 1, none⟩ (.slice none 0 0)).cell? ⟨R, 1, none⟩ = some (.slice none 0 0) := World.cell?_setCell_same _ _ _ (show (w.drewN (nq + 1)).cell? ⟨R, 1, none⟩ = some _ from h1)
  have c2 : ((w.drewN (nq + 1)).setCell ⟨R, 1, none⟩ (.slice none 0 0)).cell? ⟨R, 2, none⟩ = some (.int .i64 0) := by rw [World.cell?_setCell_other _ _ _ _ (by simp)]; exact h2
  generalize hW : (w.drewN (nq + 1)).setCell ⟨R, 1, none⟩ (.slice none 0 0) = W1 at *
  have c1' : ({ heap := W1.heap, tape := W1.tape, drawn := W1.drawn + 1, os := W1.os, output := W1.output } : World).cell? ⟨R, 1, none⟩ = some (.slice none 0 0) := c1
  have c2' : ({ heap := W1.heap, tape := W1.tape, drawn := W1.drawn + 1, os := W1.os, output := W1.output } : World).cell? ⟨R, 2, none⟩ = some (.int .i64 0) := c2
  have HW := Lib.hid hW
  clear hW h0 h1 h2 h3 h4 f1
  go_still_tail 10, (by kernel_rfl)
  change wpList _ _ _ _ _ W1.drew
  generalize hW2 : W1.drew = w2
  have B2 := Lib.hid (show w2.heap[R]? = some (.cells #[.int .i64 cap, .slice none 0 0, .int .i64 0, .int .i64 left, .bool down] 59 (0, 0)) ∧ Keeps (fun k => k = R) w w2 by
    have hb := A.out
    refine ⟨?_, ?_⟩
    · rw [← hW2, ← HW.out]
      exact (block_set (w := w.drewN (nq + 1)) (show (w.drewN (nq + 1)).heap[R]? = _ from hb) _).trans (by simp)
    · rw [← hW2, ← HW.out]
      exact (((Keeps.refl (fun k => k = R) w).drewN (nq + 1)).setCell (p := ⟨R, 1, none⟩) (fun _ => rfl) _).drew)
  clear c1 c2 c1' c2' hW2 HW
  go_wp2_with fail
  refine (F.out _).mono ?_
  rintro e w3 ⟨rfl, n, rfl⟩
  obtain ⟨hb2, hk2⟩ := B2.out
  obtain ⟨d0, d1, d2, d3, d4⟩ := reel_cells hb2
  have g2 := reel_free hb2 2
  have g3 := reel_free hb2 3
  have g4 := reel_free hb2 4
  have X := Lib.hid (crashNil_end hb2 hk2 n)
  clear hb2 hk2
  go_wp2_with fail
  go_end0
  exact X.out


/-- Behind Crash. -/
def AfterCrash (w : World) (B R : Nat) (D : Option Nat) (m' : M) (e : Ending) (w' : World) : Prop :=
  e = .returned (.tuple #[]) ∧ Reel w' B R D m' ∧ Keeps (fun k => k = R ∨ some k = D) w w'

theorem mix_byte {xs gs : List Int} (hx : ∀ x ∈ xs, 0 ≤ x ∧ x ≤ 255) (hg : ∀ x ∈ gs, 0 ≤ x ∧ x ≤ 255) (p q i : Nat) (hp : p + i ≤ xs.length) (hq : q + i ≤ gs.length) : ∀ x ∈ mix xs gs p q i, 0 ≤ x ∧ x ≤ 255 := by
  induction i with
  | zero => exact hx
  | succ i ih =>
    intro x h
    simp only [mix] at h
    rcases List.mem_or_eq_of_mem_set h with h | h
    · exact ih (by omega) (by omega) x h
    · subst h
      apply xr_byte
      · rw [List.getD_eq_getElem?_getD, List.getElem?_eq_getElem (by omega)]
        exact hx _ (List.getElem_mem _)
      · rw [List.getD_eq_getElem?_getD, List.getElem?_eq_getElem (by omega)]
        exact hg _ (List.getElem_mem _)

theorem crash_any (w : World) (B R : Nat) (D : Option Nat) (m : M) (h : Reel w B R D m) (keep : Int) (a2 : Option Addr) (ng d : Nat) (gs : List Int) (hs : Src w a2 ng gs)
    (hne : 0 < ng → ∀ ad, a2 = some ad → some ad.block ≠ D ∧ ad.block ≠ R) (hd : ng ≤ d) (hdm : d ≤ maxLen) (ha0 : a2 = none → d = 0) :
    Calls Tryd.prog 20 #[.pointer (some ⟨R, 0, none⟩), .int .i64 keep, .slice a2 ng d] w (AfterCrash w B R D (m.crash keep gs)) := by
  have ok := h.ok
  obtain ⟨s, hsafe⟩ := Int.eq_ofNat_of_zero_le ok.safe0
  have hsl : s ≤ m.xs.length := by have := ok.safe1; omega
  have hl0 := ok.len
  have hc0 := ok.cap1
  rcases h.open with ⟨hb, hx, hDn⟩ | ⟨g, c', cur, hb, hDn, hBg, hgR, hgc, hl1, hl2, hcs, htk⟩
  · rw [hx] at hsl
    obtain rfl : s = 0 := by simpa using hsl
    have em : m.crash keep gs = { cap := m.cap, xs := [], safe := 0, left := -1, down := false } := by
      have e0 : (min (max keep 0) (((([] : List Int).length : Nat) : Int) - ((0 : Nat) : Int))).toNat = 0 := by simp; omega
      simp only [M.crash, hx, hsafe, e0]
      simp [mix]
    rw [hsafe] at hb
    have fin : ∀ e w', CrashedNil w R m.cap e w' → AfterCrash w B R D (m.crash keep gs) e w' := by
      rintro e w' ⟨rfl, h1, h2⟩
      rw [em, hDn]
      exact ⟨rfl, ⟨⟨ok.cap0, ok.cap1, by simpa using ok.cap0, by simp, by simp, by simp, by simp, by simp⟩, h.at_, ⟨_, h1, World.ownsRow_nil _ _ _ _, rfl⟩, by simp⟩, h2.mono (fun _ _ e => Or.inl e)⟩
    rcases Int.lt_trichotomy keep 0 with hk | hk | hk
    · exact (crashNil_low w R m.cap keep m.left m.down a2 ng d hk hb hd hdm ha0).mono fin
    · subst hk; exact (crashNil_mid w R m.cap m.left m.down a2 ng d hb hd hdm ha0).mono fin
    · exact (crashNil_high w R m.cap keep m.left m.down a2 ng d hk hb hd hdm ha0).mono fin
  · have hrow : Row w g c' m.xs.length m.xs := ⟨cur, hgc, hcs, htk⟩
    have hne' : 0 < ng → ∀ ad, a2 = some ad → ad.block ≠ g ∧ ad.block ≠ R := fun hp ad e => ⟨fun e2 => (hne hp ad e).1 (by rw [hDn, e2]), (hne hp ad e).2⟩
    rw [hsafe] at hb
    have fin : ∀ t, (m.safe.toNat + (min (max keep 0) ((m.xs.length : Int) - m.safe)).toNat) = t → ∀ e w', Crashed w R g c' m.cap t c' (mix (m.xs.take t) gs (t - min (t - s) gs.length) (gs.length - min (t - s) gs.length) (min (t - s) gs.length)) e w' → AfterCrash w B R D (m.crash keep gs) e w' := by
      rintro t ht e w' ⟨rfl, h1, h2, h3⟩
      have hts : t ≤ m.xs.length := by omega
      have hst : s ≤ t := by omega
      have en : (min (max keep 0) ((m.xs.length : Int) - m.safe)).toNat = t - s := by omega
      have em : m.crash keep gs = { cap := m.cap, xs := mix (m.xs.take t) gs (t - min (t - s) gs.length) (gs.length - min (t - s) gs.length) (min (t - s) gs.length), safe := t, left := -1, down := false } := by
        simp only [M.crash, en]
        rw [show m.safe.toNat + (t - s) = t by omega]
      have hlt : (m.xs.take t).length = t := by rw [List.length_take]; omega
      have hlen : (mix (m.xs.take t) gs (t - min (t - s) gs.length) (gs.length - min (t - s) gs.length) (min (t - s) gs.length)).length = t := by rw [mix_length, hlt]
      obtain ⟨cur', hg', hs', ht'⟩ := h2
      rw [em, hDn]
      refine ⟨rfl, ⟨⟨ok.cap0, ok.cap1, by simp only [hlen]; omega, by simp, by simp only [hlen]; omega, by simp, by simp, ?_⟩, h.at_, ⟨_, by simpa using h1, ?_, rfl⟩, by simpa using hgR⟩, h3.mono ?_⟩
      · refine mix_byte (fun x hx => ok.byte x (List.mem_of_mem_take hx)) hs.2.1 _ _ _ (by omega) (by omega)
      · exact ⟨by simp, Or.inr ⟨g, c', cur', by rw [hlen], hBg, hg', by rw [hlen]; omega, hl2, by rw [hs']; simp, by rw [hlen]; simpa using ht'⟩⟩
      · rintro i _ (e | e)
        · exact Or.inl e
        · exact Or.inr (by rw [e])
    by_cases hcs' : c' = s
    · have hls : m.xs.length = s := by omega
      rw [hls] at hb hrow hl1
      subst hcs'
      rcases Int.lt_trichotomy keep 0 with hk | hk | hk
      · exact (crash_low_eq w R g c' c' m.cap keep m.left m.down a2 ng d m.xs gs hl2 (by omega) hk hgR hb hrow hls hs hne' hd hdm ha0).mono (fin _ (by omega))
      · subst hk; exact (crash_mid_eq w R g c' c' m.cap m.left m.down a2 ng d m.xs gs hl2 (by omega) hgR hb hrow hls hs hne' hd hdm ha0).mono (fin _ (by omega))
      · exact (crash_high_eq w R g c' c' m.cap keep m.left m.down a2 ng d m.xs gs hl2 (by omega) hk hgR hb hrow hls hs hne' hd hdm ha0).mono (fin _ (by omega))
    · by_cases hk : keep < 0
      · exact (crash_low_ne w R g s c' m.xs.length c' m.cap keep m.left m.down a2 ng d m.xs gs hsl hl1 hl2 (by omega) hk hcs' hgR hb hrow rfl hs hne' hd hdm ha0).mono (fin _ (by omega))
      · by_cases hk2 : keep ≤ (m.xs.length : Int) - s
        · obtain ⟨k, rfl⟩ := Int.eq_ofNat_of_zero_le (show 0 ≤ keep by omega)
          have C := crash_mid_ne w R g s c' m.xs.length c' m.cap (s + k) m.left m.down a2 ng d m.xs gs hsl hl1 hl2 (by omega) (by omega) (by omega) hcs' hgR hb hrow rfl hs hne' hd hdm ha0
          rw [show (((s + k : Nat) : Int) - (s : Int)) = (k : Int) by omega] at C
          exact C.mono (fin _ (by omega))
        · exact (crash_high_ne w R g s c' m.xs.length c' m.cap keep m.left m.down a2 ng d m.xs gs hsl hl1 hl2 (by omega) (by omega) (by omega) hcs' hgR hb hrow rfl hs hne' hd hdm ha0).mono (fin _ (by omega))
end Go.Proofs.YthddjfaeacmlhaaDoor.Re
