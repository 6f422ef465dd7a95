/- The contract of Crash. -/
import Derived.Test.YthddjfaeacmlhaaDoorRG
namespace Go.Proofs.YthddjfaeacmlhaaDoor.Re
open Go.RowKit

def M.crash (m : M) (keep : Int) (gs : List Int) : M :=
  let n := (min (max keep 0) (m.xs.length - m.safe)).toNat
  let t := m.safe.toNat + n
  let k := min n gs.length
  { cap := m.cap, xs := mix (m.xs.take t) gs (t - k) (gs.length - k) k, safe := t, left := -1, down := false }

/-- Behind the helper: the row's end is xored. -/
def Xored (w : World) (g sz len : Nat) (xs gs : List Int) (k : Nat) (e : Ending) (w' : World) : Prop :=
  e = .returned (.tuple #[]) ∧ Row w' g sz len (mix xs gs (len - k) (gs.length - k) k) ∧ Keeps (fun k => k = g) w w'

theorem xorEnd_any (w : World) (g off nb c sz len : Nat) (xs gs : List Int) (ab a2 : Option Addr) (ng d : Nat) (hrow : Row w g sz len xs) (hlen : xs.length = len) (hoff : off + nb = len) (hc : nb ≤ c) (hcm : c ≤ maxLen) (hsz : len ≤ 16777216)
    (hab : 0 < nb → ab = some ⟨g, off, none⟩) (hab0 : ab = none → c = 0) (hs : Src w a2 ng gs) (hne : 0 < ng → ∀ ad, a2 = some ad → ad.block ≠ g) (hd : ng ≤ d) (hdm : d ≤ maxLen) (ha0 : a2 = none → d = 0) :
    Calls Tryd.prog 36 #[.slice ab nb c, .slice a2 ng d] w (Xored w g sz len xs gs (min nb gs.length)) := by
  obtain ⟨hn, hby, hs⟩ := hs
  by_cases hz : nb = 0 ∨ ng = 0
  · refine (xorEnd_zero w ab a2 nb c ng d hz hc hd hab0 ha0 hcm hdm).mono ?_
    rintro e w' ⟨rfl, n, rfl⟩
    have e0 : min nb gs.length = 0 := by omega
    rw [e0]
    exact ⟨rfl, hrow.same rfl, (Keeps.refl _ _).drewN _⟩
  · obtain rfl := hab (by omega)
    rcases hs with ⟨_, h⟩ | ⟨ad, rfl, hc2⟩
    · omega
    · obtain ⟨gb, go_, spot⟩ := ad
      have hsp : spot = none := by
        have h1 : gs[0]? = some (gs[0]'(by omega)) := List.getElem?_eq_getElem (by omega)
        have h2 := hc2 0 _ (by rw [List.getElem?_map, h1]; rfl)
        simpa [Addr.add] using World.cell?_spot h2
      subst hsp
      have hcell : ∀ j x, gs[j]? = some x → w.cell? ⟨gb, go_ + j, none⟩ = some (.int .u8 x) := by
        intro j x hj
        have h2 := hc2 j (.int .u8 x) (by rw [List.getElem?_map, hj]; rfl)
        have h3 : ((⟨gb, go_, none⟩ : Addr).add j) = ⟨gb, go_ + j, none⟩ := by
          unfold Addr.add
          split
          · rename_i h; subst h; rfl
          · rfl
        rw [← h3]; exact h2
      have hg := hne (by omega) _ rfl
      refine (xorEnd_some w g off nb c gb go_ ng d (min nb gs.length) len sz xs gs hrow hlen hoff hc hsz hcell hn (by omega) hd hg (by omega) (by omega)).mono ?_
      rintro e w' ⟨rfl, h1, h2, _⟩
      rw [← hn] at h1
      exact ⟨rfl, h1, h2⟩

/-- What Crash leaves of a reel that holds bytes. -/
def Crashed (w : World) (R g c : Nat) (cap : Int) (t : Nat) (sz : Nat) (ys : List Int) (e : Ending) (w' : World) : Prop :=
  e = .returned (.tuple #[]) ∧ w'.heap[R]? = some (.cells #[.int .i64 cap, .slice (some ⟨g, 0, none⟩) t c, .int .i64 t, .int .i64 (-1), .bool false] 59 (0, 0)) ∧ Row w' g sz t ys ∧ Keeps (fun k => k = R ∨ k = g) w w'

theorem Row.take {w : World} {g sz len t : Nat} {xs : List Int} (h : Row w g sz len xs) (ht : t ≤ len) : Row w g sz t (xs.take t) := by
  obtain ⟨cur, hg, hs, hk⟩ := h
  refine ⟨cur, hg, hs, ?_⟩
  rw [List.map_take, ← hk, List.take_take]
  congr 1
  omega

/-- The last three stores. -/
theorem crash_end {w w2 w3 : World} {R g c sz t : Nat} {cap s0 left : Int} {down : Bool} {xs gs : List Int} {k : Nat} (hgR : g ≠ R)
    (hb : w2.heap[R]? = some (.cells #[.int .i64 cap, .slice (some ⟨g, 0, none⟩) t c, .int .i64 s0, .int .i64 left, .bool down] 59 (0, 0)))
    (hk2 : Keeps (fun k => k = R ∨ k = g) w w2) (hrow : Row w3 g sz t (mix xs gs (t - k) (gs.length - k) k)) (hk3 : Keeps (fun k => k = g) w2 w3) :
    Crashed w R g c cap t sz (mix xs gs (t - k) (gs.length - k) k) (.returned (.tuple #[])) (((w3.setCell ⟨R, 2, none⟩ (.int .i64 t)).setCell ⟨R, 3, none⟩ (.int .i64 (-1))).setCell ⟨R, 4, none⟩ (.bool false)) := by
  have hb3 := (hk3.block R (lt_of_block hb) (fun h => hgR h.symm)).trans hb
  refine ⟨rfl, ?_, ?_, ?_⟩
  · rw [block_set (block_set (block_set hb3 _) _) _]
    simp
  · refine hrow.same ?_
    rw [Below.heap_setCell _ _ _ _ hgR, Below.heap_setCell _ _ _ _ hgR, Below.heap_setCell _ _ _ _ hgR]
  · exact (((hk2.trans hk3 (fun i _ h => Or.inr h)).setCell (p := ⟨R, 2, none⟩) (fun _ => Or.inl rfl) _).setCell (p := ⟨R, 3, none⟩) (fun _ => Or.inl rfl) _).setCell (p := ⟨R, 4, none⟩) (fun _ => Or.inl rfl) _

set_option maxHeartbeats 800000 in
theorem crash_low_eq (w : World) (R g s sz : Nat) (cap : Int) (keep : Int) (left : Int) (down : Bool) (a2 : Option Addr) (ng d : Nat) (xs gs : List Int)  (hcm : s ≤ maxLen) (hlen : s ≤ 16777216)
    (hk : keep < 0) (hgR : g ≠ R) (hb : w.heap[R]? = some (.cells #[.int .i64 cap, .slice (some ⟨g, 0, none⟩) s s, .int .i64 s, .int .i64 left, .bool down] 59 (0, 0)))
    (hrow : Row w g sz s xs) (hl : xs.length = s) (hs : Src w a2 ng gs) (hne : 0 < ng → ∀ ad, a2 = some ad → ad.block ≠ g ∧ ad.block ≠ R) (hd : ng ≤ d) (hdm : d ≤ maxLen) (ha0 : a2 = none → d = 0) :
    Calls Tryd.prog 20 #[.pointer (some ⟨R, 0, none⟩), .int .i64 keep, .slice a2 ng d] w
      (Crashed w R g s cap (s) sz (mix (xs.take (s)) gs (s - min (s - s) gs.length) (gs.length - min (s - s) gs.length) (min (s - s) gs.length))) := by
  obtain ⟨h0, h1, h2, h3, h4⟩ := reel_cells hb
  have f1 := reel_free hb 1
  have A := Lib.hid (And.intro hb (And.intro hrow (And.intro hl (And.intro hs (And.intro hne ha0)))))
  clear hb hrow hl hs hne ha0
  go_enter Tryd.func20, Tryd.ntmps20
  go_wp2
  go_quiet (fail)
  go_wp2
  go_region
  go_wp2
  have c1 : ((w.drewN (nq + 1)).setCell ⟨R, 1, none⟩ (.slice (some ⟨g, 0, none⟩) (s) s)).cell? ⟨R, 1, none⟩ = some (.slice (some ⟨g, 0, none⟩) (s) s) := World.cell?_setCell_same _ _ _ (show (w.drewN (nq + 1)).cell? ⟨R, 1, none⟩ = some _ from h1)
  have c2 : ((w.drewN (nq + 1)).setCell ⟨R, 1, none⟩ (.slice (some ⟨g, 0, none⟩) (s) s)).cell? ⟨R, 2, none⟩ = some (.int .i64 s) := by rw [World.cell?_setCell_other _ _ _ _ (by simp)]; exact h2
  generalize hW : (w.drewN (nq + 1)).setCell ⟨R, 1, none⟩ (.slice (some ⟨g, 0, none⟩) (s) s) = W1 at *
  have c1' : ({ heap := W1.heap, tape := W1.tape, drawn := W1.drawn + 1, os := W1.os, output := W1.output } : World).cell? ⟨R, 1, none⟩ = some (.slice (some ⟨g, 0, none⟩) (s) s) := c1
  have c2' : ({ heap := W1.heap, tape := W1.tape, drawn := W1.drawn + 1, os := W1.os, output := W1.output } : World).cell? ⟨R, 2, none⟩ = some (.int .i64 s) := c2
  have HW := Lib.hid hW
  clear hW h0 h1 h2 h3 h4 f1
  go_still_tail 10, (by kernel_rfl)
  change wpList _ _ _ _ _ W1.drew
  generalize hW2 : W1.drew = w2
  have B2 := Lib.hid (show w2.heap[R]? = some (.cells #[.int .i64 cap, .slice (some ⟨g, 0, none⟩) (s) s, .int .i64 s, .int .i64 left, .bool down] 59 (0, 0)) ∧ Row w2 g sz (s) (xs.take (s)) ∧ Keeps (fun k => k = R ∨ k = g) w w2 ∧ Src w2 a2 ng gs by
    obtain ⟨hb, hrow, hl, hs, hne, ha0⟩ := A.out
    have hRg : ∀ k, k ≠ R → w2.heap[k]? = w.heap[k]? := by
      intro k hk
      rw [← hW2, ← HW.out]
      exact Below.heap_setCell (w.drewN (nq + 1)) _ _ _ hk
    refine ⟨?_, (hrow.take (by omega)).same (hRg g hgR), ?_, ?_⟩
    · rw [← hW2, ← HW.out]
      exact (block_set (w := w.drewN (nq + 1)) (show (w.drewN (nq + 1)).heap[R]? = _ from hb) _).trans (by simp)
    · rw [← hW2, ← HW.out]
      exact (((Keeps.refl (fun k => k = R ∨ k = g) w).drewN (nq + 1)).setCell (p := ⟨R, 1, none⟩) (fun _ => Or.inl rfl) _).drew
    · obtain ⟨e1, e2, e3⟩ := hs
      refine ⟨e1, e2, ?_⟩
      rcases e3 with e3 | ⟨ad, rfl, e4⟩
      · exact Or.inl e3
      · refine Or.inr ⟨ad, rfl, fun j u hj => ?_⟩
        have hcell := e4 j u hj
        rw [← hcell]
        have hblk : (ad.add j).block = ad.block := by unfold Addr.add; split <;> rfl
        exact World.cell?_of_block (w := w) (hRg _ (by rw [hblk]; exact (hne (by rw [← e1]; have := (List.getElem?_eq_some_iff.1 hj).1; simp only [List.length_map] at this; omega) _ rfl).2)))
  have C0 := xorEnd_any w2 g s (s - s) (s - s) sz (s) (xs.take (s)) gs (some ⟨g, 0, none⟩) a2 ng d B2.out.2.1 (by rw [List.length_take, A.out.2.2.1]; omega) (by omega) (by omega) (by omega) (by omega) (by intro h; omega) (by intro h; cases h) B2.out.2.2.2 (fun hp ad e => (A.out.2.2.2.2.1 hp ad e).1) hd hdm A.out.2.2.2.2.2
  simp only [Nat.sub_self] at C0
  have C := Lib.hid C0
  clear c1 c2 c1' c2' hW2 HW C0
  go_wp2_with fail
  refine C.out.mono ?_
  rintro e w3 ⟨rfl, hrow3, hk3⟩
  obtain ⟨hb2, _, hk2, _⟩ := B2.out
  have hb3 := (hk3.block R (lt_of_block hb2) (fun h => hgR h.symm)).trans hb2
  obtain ⟨d0, d1, d2, d3, d4⟩ := reel_cells hb3
  have g2 := reel_free hb3 2
  have g3 := reel_free hb3 3
  have g4 := reel_free hb3 4
  have X := Lib.hid (crash_end (k := min (s - s) gs.length) hgR hb2 hk2 (by simp only [Nat.sub_self]; exact hrow3) hk3)
  skip
  clear hrow3 hk3 hb2 hk2 hb3
  go_wp2_with fail
  go_end0
  exact X.out

set_option maxHeartbeats 800000 in
theorem crash_low_ne (w : World) (R g s c len sz : Nat) (cap : Int) (keep : Int) (left : Int) (down : Bool) (a2 : Option Addr) (ng d : Nat) (xs gs : List Int) (hsl : s ≤ len) (hlc : len ≤ c) (hcm : c ≤ maxLen) (hlen : len ≤ 16777216)
    (hk : keep < 0) (hcs : ¬ c = s) (hgR : g ≠ R) (hb : w.heap[R]? = some (.cells #[.int .i64 cap, .slice (some ⟨g, 0, none⟩) len c, .int .i64 s, .int .i64 left, .bool down] 59 (0, 0)))
    (hrow : Row w g sz len xs) (hl : xs.length = len) (hs : Src w a2 ng gs) (hne : 0 < ng → ∀ ad, a2 = some ad → ad.block ≠ g ∧ ad.block ≠ R) (hd : ng ≤ d) (hdm : d ≤ maxLen) (ha0 : a2 = none → d = 0) :
    Calls Tryd.prog 20 #[.pointer (some ⟨R, 0, none⟩), .int .i64 keep, .slice a2 ng d] w
      (Crashed w R g c cap (s) sz (mix (xs.take (s)) gs (s - min (s - s) gs.length) (gs.length - min (s - s) gs.length) (min (s - s) gs.length))) := by
  obtain ⟨h0, h1, h2, h3, h4⟩ := reel_cells hb
  have f1 := reel_free hb 1
  have A := Lib.hid (And.intro hb (And.intro hrow (And.intro hl (And.intro hs (And.intro hne ha0)))))
  clear hb hrow hl hs hne ha0
  go_enter Tryd.func20, Tryd.ntmps20
  go_wp2
  go_quiet (fail)
  go_wp2
  go_region
  go_wp2
  have c1 : ((w.drewN (nq + 1)).setCell ⟨R, 1, none⟩ (.slice (some ⟨g, 0, none⟩) (s) c)).cell? ⟨R, 1, none⟩ = some (.slice (some ⟨g, 0, none⟩) (s) c) := World.cell?_setCell_same _ _ _ (show (w.drewN (nq + 1)).cell? ⟨R, 1, none⟩ = some _ from h1)
  have c2 : ((w.drewN (nq + 1)).setCell ⟨R, 1, none⟩ (.slice (some ⟨g, 0, none⟩) (s) c)).cell? ⟨R, 2, none⟩ = some (.int .i64 s) := by rw [World.cell?_setCell_other _ _ _ _ (by simp)]; exact h2
  generalize hW : (w.drewN (nq + 1)).setCell ⟨R, 1, none⟩ (.slice (some ⟨g, 0, none⟩) (s) c) = W1 at *
  have c1' : ({ heap := W1.heap, tape := W1.tape, drawn := W1.drawn + 1, os := W1.os, output := W1.output } : World).cell? ⟨R, 1, none⟩ = some (.slice (some ⟨g, 0, none⟩) (s) c) := c1
  have c2' : ({ heap := W1.heap, tape := W1.tape, drawn := W1.drawn + 1, os := W1.os, output := W1.output } : World).cell? ⟨R, 2, none⟩ = some (.int .i64 s) := c2
  have HW := Lib.hid hW
  clear hW h0 h1 h2 h3 h4 f1
  go_still_tail 10, (by kernel_rfl)
  change wpList _ _ _ _ _ W1.drew
  generalize hW2 : W1.drew = w2
  have B2 := Lib.hid (show w2.heap[R]? = some (.cells #[.int .i64 cap, .slice (some ⟨g, 0, none⟩) (s) c, .int .i64 s, .int .i64 left, .bool down] 59 (0, 0)) ∧ Row w2 g sz (s) (xs.take (s)) ∧ Keeps (fun k => k = R ∨ k = g) w w2 ∧ Src w2 a2 ng gs by
    obtain ⟨hb, hrow, hl, hs, hne, ha0⟩ := A.out
    have hRg : ∀ k, k ≠ R → w2.heap[k]? = w.heap[k]? := by
      intro k hk
      rw [← hW2, ← HW.out]
      exact Below.heap_setCell (w.drewN (nq + 1)) _ _ _ hk
    refine ⟨?_, (hrow.take (by omega)).same (hRg g hgR), ?_, ?_⟩
    · rw [← hW2, ← HW.out]
      exact (block_set (w := w.drewN (nq + 1)) (show (w.drewN (nq + 1)).heap[R]? = _ from hb) _).trans (by simp)
    · rw [← hW2, ← HW.out]
      exact (((Keeps.refl (fun k => k = R ∨ k = g) w).drewN (nq + 1)).setCell (p := ⟨R, 1, none⟩) (fun _ => Or.inl rfl) _).drew
    · obtain ⟨e1, e2, e3⟩ := hs
      refine ⟨e1, e2, ?_⟩
      rcases e3 with e3 | ⟨ad, rfl, e4⟩
      · exact Or.inl e3
      · refine Or.inr ⟨ad, rfl, fun j u hj => ?_⟩
        have hcell := e4 j u hj
        rw [← hcell]
        have hblk : (ad.add j).block = ad.block := by unfold Addr.add; split <;> rfl
        exact World.cell?_of_block (w := w) (hRg _ (by rw [hblk]; exact (hne (by rw [← e1]; have := (List.getElem?_eq_some_iff.1 hj).1; simp only [List.length_map] at this; omega) _ rfl).2)))
  have C0 := xorEnd_any w2 g s (s - s) (c - s) sz (s) (xs.take (s)) gs (some ⟨g, s, none⟩) a2 ng d B2.out.2.1 (by rw [List.length_take, A.out.2.2.1]; omega) (by omega) (by omega) (by omega) (by omega) (by intro h; rfl) (by intro h; cases h) B2.out.2.2.2 (fun hp ad e => (A.out.2.2.2.2.1 hp ad e).1) hd hdm A.out.2.2.2.2.2
  simp only [Nat.sub_self] at C0
  have C := Lib.hid C0
  clear c1 c2 c1' c2' hW2 HW C0
  go_wp2_with fail
  refine C.out.mono ?_
  rintro e w3 ⟨rfl, hrow3, hk3⟩
  obtain ⟨hb2, _, hk2, _⟩ := B2.out
  have hb3 := (hk3.block R (lt_of_block hb2) (fun h => hgR h.symm)).trans hb2
  obtain ⟨d0, d1, d2, d3, d4⟩ := reel_cells hb3
  have g2 := reel_free hb3 2
  have g3 := reel_free hb3 3
  have g4 := reel_free hb3 4
  have X := Lib.hid (crash_end (k := min (s - s) gs.length) hgR hb2 hk2 (by simp only [Nat.sub_self]; exact hrow3) hk3)
  skip
  clear hrow3 hk3 hb2 hk2 hb3
  go_wp2_with fail
  go_end0
  exact X.out

set_option maxHeartbeats 800000 in
theorem crash_mid_eq (w : World) (R g s sz : Nat) (cap : Int)  (left : Int) (down : Bool) (a2 : Option Addr) (ng d : Nat) (xs gs : List Int)  (hcm : s ≤ maxLen) (hlen : s ≤ 16777216)
     (hgR : g ≠ R) (hb : w.heap[R]? = some (.cells #[.int .i64 cap, .slice (some ⟨g, 0, none⟩) s s, .int .i64 s, .int .i64 left, .bool down] 59 (0, 0)))
    (hrow : Row w g sz s xs) (hl : xs.length = s) (hs : Src w a2 ng gs) (hne : 0 < ng → ∀ ad, a2 = some ad → ad.block ≠ g ∧ ad.block ≠ R) (hd : ng ≤ d) (hdm : d ≤ maxLen) (ha0 : a2 = none → d = 0) :
    Calls Tryd.prog 20 #[.pointer (some ⟨R, 0, none⟩), .int .i64 0, .slice a2 ng d] w
      (Crashed w R g s cap (s) sz (mix (xs.take (s)) gs (s - min (s - s) gs.length) (gs.length - min (s - s) gs.length) (min (s - s) gs.length))) := by
  obtain ⟨h0, h1, h2, h3, h4⟩ := reel_cells hb
  have f1 := reel_free hb 1
  have A := Lib.hid (And.intro hb (And.intro hrow (And.intro hl (And.intro hs (And.intro hne ha0)))))
  clear hb hrow hl hs hne ha0
  go_enter Tryd.func20, Tryd.ntmps20
  go_wp2
  go_quiet (fail)
  go_wp2
  go_region
  go_wp2
  have c1 : ((w.drewN (nq + 1)).setCell ⟨R, 1, none⟩ (.slice (some ⟨g, 0, none⟩) (s) s)).cell? ⟨R, 1, none⟩ = some (.slice (some ⟨g, 0, none⟩) (s) s) := World.cell?_setCell_same _ _ _ (show (w.drewN (nq + 1)).cell? ⟨R, 1, none⟩ = some _ from h1)
  have c2 : ((w.drewN (nq + 1)).setCell ⟨R, 1, none⟩ (.slice (some ⟨g, 0, none⟩) (s) s)).cell? ⟨R, 2, none⟩ = some (.int .i64 s) := by rw [World.cell?_setCell_other _ _ _ _ (by simp)]; exact h2
  generalize hW : (w.drewN (nq + 1)).setCell ⟨R, 1, none⟩ (.slice (some ⟨g, 0, none⟩) (s) s) = W1 at *
  have c1' : ({ heap := W1.heap, tape := W1.tape, drawn := W1.drawn + 1, os := W1.os, output := W1.output } : World).cell? ⟨R, 1, none⟩ = some (.slice (some ⟨g, 0, none⟩) (s) s) := c1
  have c2' : ({ heap := W1.heap, tape := W1.tape, drawn := W1.drawn + 1, os := W1.os, output := W1.output } : World).cell? ⟨R, 2, none⟩ = some (.int .i64 s) := c2
  have HW := Lib.hid hW
  clear hW h0 h1 h2 h3 h4 f1
  go_still_tail 10, (by kernel_rfl)
  change wpList _ _ _ _ _ W1.drew
  generalize hW2 : W1.drew = w2
  have B2 := Lib.hid (show w2.heap[R]? = some (.cells #[.int .i64 cap, .slice (some ⟨g, 0, none⟩) (s) s, .int .i64 s, .int .i64 left, .bool down] 59 (0, 0)) ∧ Row w2 g sz (s) (xs.take (s)) ∧ Keeps (fun k => k = R ∨ k = g) w w2 ∧ Src w2 a2 ng gs by
    obtain ⟨hb, hrow, hl, hs, hne, ha0⟩ := A.out
    have hRg : ∀ k, k ≠ R → w2.heap[k]? = w.heap[k]? := by
      intro k hk
      rw [← hW2, ← HW.out]
      exact Below.heap_setCell (w.drewN (nq + 1)) _ _ _ hk
    refine ⟨?_, (hrow.take (by omega)).same (hRg g hgR), ?_, ?_⟩
    · rw [← hW2, ← HW.out]
      exact (block_set (w := w.drewN (nq + 1)) (show (w.drewN (nq + 1)).heap[R]? = _ from hb) _).trans (by simp)
    · rw [← hW2, ← HW.out]
      exact (((Keeps.refl (fun k => k = R ∨ k = g) w).drewN (nq + 1)).setCell (p := ⟨R, 1, none⟩) (fun _ => Or.inl rfl) _).drew
    · obtain ⟨e1, e2, e3⟩ := hs
      refine ⟨e1, e2, ?_⟩
      rcases e3 with e3 | ⟨ad, rfl, e4⟩
      · exact Or.inl e3
      · refine Or.inr ⟨ad, rfl, fun j u hj => ?_⟩
        have hcell := e4 j u hj
        rw [← hcell]
        have hblk : (ad.add j).block = ad.block := by unfold Addr.add; split <;> rfl
        exact World.cell?_of_block (w := w) (hRg _ (by rw [hblk]; exact (hne (by rw [← e1]; have := (List.getElem?_eq_some_iff.1 hj).1; simp only [List.length_map] at this; omega) _ rfl).2)))
  have C0 := xorEnd_any w2 g s (s - s) (s - s) sz (s) (xs.take (s)) gs (some ⟨g, 0, none⟩) a2 ng d B2.out.2.1 (by rw [List.length_take, A.out.2.2.1]; omega) (by omega) (by omega) (by omega) (by omega) (by intro h; omega) (by intro h; cases h) B2.out.2.2.2 (fun hp ad e => (A.out.2.2.2.2.1 hp ad e).1) hd hdm A.out.2.2.2.2.2
  simp only [Nat.sub_self] at C0
  have C := Lib.hid C0
  clear c1 c2 c1' c2' hW2 HW C0
  go_wp2_with fail
  refine C.out.mono ?_
  rintro e w3 ⟨rfl, hrow3, hk3⟩
  obtain ⟨hb2, _, hk2, _⟩ := B2.out
  have hb3 := (hk3.block R (lt_of_block hb2) (fun h => hgR h.symm)).trans hb2
  obtain ⟨d0, d1, d2, d3, d4⟩ := reel_cells hb3
  have g2 := reel_free hb3 2
  have g3 := reel_free hb3 3
  have g4 := reel_free hb3 4
  have X := Lib.hid (crash_end (k := min (s - s) gs.length) hgR hb2 hk2 (by simp only [Nat.sub_self]; exact hrow3) hk3)
  skip
  clear hrow3 hk3 hb2 hk2 hb3
  go_wp2_with fail
  go_end0
  exact X.out

set_option maxHeartbeats 800000 in
theorem crash_mid_ne (w : World) (R g s c len sz : Nat) (cap : Int) (t : Nat) (left : Int) (down : Bool) (a2 : Option Addr) (ng d : Nat) (xs gs : List Int) (hsl : s ≤ len) (hlc : len ≤ c) (hcm : c ≤ maxLen) (hlen : len ≤ 16777216)
    (hst : s ≤ t) (htl : t ≤ len) (hcs : ¬ c = s) (hgR : g ≠ R) (hb : w.heap[R]? = some (.cells #[.int .i64 cap, .slice (some ⟨g, 0, none⟩) len c, .int .i64 s, .int .i64 left, .bool down] 59 (0, 0)))
    (hrow : Row w g sz len xs) (hl : xs.length = len) (hs : Src w a2 ng gs) (hne : 0 < ng → ∀ ad, a2 = some ad → ad.block ≠ g ∧ ad.block ≠ R) (hd : ng ≤ d) (hdm : d ≤ maxLen) (ha0 : a2 = none → d = 0) :
    Calls Tryd.prog 20 #[.pointer (some ⟨R, 0, none⟩), .int .i64 ((t : Int) - s), .slice a2 ng d] w
      (Crashed w R g c cap (t) sz (mix (xs.take (t)) gs (t - min (t - s) gs.length) (gs.length - min (t - s) gs.length) (min (t - s) gs.length))) := by
  obtain ⟨h0, h1, h2, h3, h4⟩ := reel_cells hb
  have f1 := reel_free hb 1
  have A := Lib.hid (And.intro hb (And.intro hrow (And.intro hl (And.intro hs (And.intro hne ha0)))))
  clear hb hrow hl hs hne ha0
  go_enter Tryd.func20, Tryd.ntmps20
  go_wp2
  go_quiet (fail)
  go_wp2
  go_region
  go_wp2
  have c1 : ((w.drewN (nq + 1)).setCell ⟨R, 1, none⟩ (.slice (some ⟨g, 0, none⟩) (t) c)).cell? ⟨R, 1, none⟩ = some (.slice (some ⟨g, 0, none⟩) (t) c) := World.cell?_setCell_same _ _ _ (show (w.drewN (nq + 1)).cell? ⟨R, 1, none⟩ = some _ from h1)
  have c2 : ((w.drewN (nq + 1)).setCell ⟨R, 1, none⟩ (.slice (some ⟨g, 0, none⟩) (t) c)).cell? ⟨R, 2, none⟩ = some (.int .i64 s) := by rw [World.cell?_setCell_other _ _ _ _ (by simp)]; exact h2
  generalize hW : (w.drewN (nq + 1)).setCell ⟨R, 1, none⟩ (.slice (some ⟨g, 0, none⟩) (t) c) = W1 at *
  have c1' : ({ heap := W1.heap, tape := W1.tape, drawn := W1.drawn + 1, os := W1.os, output := W1.output } : World).cell? ⟨R, 1, none⟩ = some (.slice (some ⟨g, 0, none⟩) (t) c) := c1
  have c2' : ({ heap := W1.heap, tape := W1.tape, drawn := W1.drawn + 1, os := W1.os, output := W1.output } : World).cell? ⟨R, 2, none⟩ = some (.int .i64 s) := c2
  have HW := Lib.hid hW
  clear hW h0 h1 h2 h3 h4 f1
  go_still_tail 10, (by kernel_rfl)
  change wpList _ _ _ _ _ W1.drew
  generalize hW2 : W1.drew = w2
  have B2 := Lib.hid (show w2.heap[R]? = some (.cells #[.int .i64 cap, .slice (some ⟨g, 0, none⟩) (t) c, .int .i64 s, .int .i64 left, .bool down] 59 (0, 0)) ∧ Row w2 g sz (t) (xs.take (t)) ∧ Keeps (fun k => k = R ∨ k = g) w w2 ∧ Src w2 a2 ng gs by
    obtain ⟨hb, hrow, hl, hs, hne, ha0⟩ := A.out
    have hRg : ∀ k, k ≠ R → w2.heap[k]? = w.heap[k]? := by
      intro k hk
      rw [← hW2, ← HW.out]
      exact Below.heap_setCell (w.drewN (nq + 1)) _ _ _ hk
    refine ⟨?_, (hrow.take (by omega)).same (hRg g hgR), ?_, ?_⟩
    · rw [← hW2, ← HW.out]
      exact (block_set (w := w.drewN (nq + 1)) (show (w.drewN (nq + 1)).heap[R]? = _ from hb) _).trans (by simp)
    · rw [← hW2, ← HW.out]
      exact (((Keeps.refl (fun k => k = R ∨ k = g) w).drewN (nq + 1)).setCell (p := ⟨R, 1, none⟩) (fun _ => Or.inl rfl) _).drew
    · obtain ⟨e1, e2, e3⟩ := hs
      refine ⟨e1, e2, ?_⟩
      rcases e3 with e3 | ⟨ad, rfl, e4⟩
      · exact Or.inl e3
      · refine Or.inr ⟨ad, rfl, fun j u hj => ?_⟩
        have hcell := e4 j u hj
        rw [← hcell]
        have hblk : (ad.add j).block = ad.block := by unfold Addr.add; split <;> rfl
        exact World.cell?_of_block (w := w) (hRg _ (by rw [hblk]; exact (hne (by rw [← e1]; have := (List.getElem?_eq_some_iff.1 hj).1; simp only [List.length_map] at this; omega) _ rfl).2)))
  have C0 := xorEnd_any w2 g s (t - s) (c - s) sz (t) (xs.take (t)) gs (some ⟨g, s, none⟩) a2 ng d B2.out.2.1 (by rw [List.length_take, A.out.2.2.1]; omega) (by omega) (by omega) (by omega) (by omega) (by intro h; rfl) (by intro h; cases h) B2.out.2.2.2 (fun hp ad e => (A.out.2.2.2.2.1 hp ad e).1) hd hdm A.out.2.2.2.2.2
  skip
  have C := Lib.hid C0
  clear c1 c2 c1' c2' hW2 HW C0
  go_wp2_with fail
  refine C.out.mono ?_
  rintro e w3 ⟨rfl, hrow3, hk3⟩
  obtain ⟨hb2, _, hk2, _⟩ := B2.out
  have hb3 := (hk3.block R (lt_of_block hb2) (fun h => hgR h.symm)).trans hb2
  obtain ⟨d0, d1, d2, d3, d4⟩ := reel_cells hb3
  have g2 := reel_free hb3 2
  have g3 := reel_free hb3 3
  have g4 := reel_free hb3 4
  have X := Lib.hid (crash_end (k := min (t - s) gs.length) hgR hb2 hk2 hrow3 hk3)
  skip
  clear hrow3 hk3 hb2 hk2 hb3
  go_wp2_with fail
  go_end0
  exact X.out

set_option maxHeartbeats 800000 in
theorem crash_high_eq (w : World) (R g s sz : Nat) (cap : Int) (keep : Int) (left : Int) (down : Bool) (a2 : Option Addr) (ng d : Nat) (xs gs : List Int)  (hcm : s ≤ maxLen) (hlen : s ≤ 16777216)
    (hk : 0 < keep) (hgR : g ≠ R) (hb : w.heap[R]? = some (.cells #[.int .i64 cap, .slice (some ⟨g, 0, none⟩) s s, .int .i64 s, .int .i64 left, .bool down] 59 (0, 0)))
    (hrow : Row w g sz s xs) (hl : xs.length = s) (hs : Src w a2 ng gs) (hne : 0 < ng → ∀ ad, a2 = some ad → ad.block ≠ g ∧ ad.block ≠ R) (hd : ng ≤ d) (hdm : d ≤ maxLen) (ha0 : a2 = none → d = 0) :
    Calls Tryd.prog 20 #[.pointer (some ⟨R, 0, none⟩), .int .i64 keep, .slice a2 ng d] w
      (Crashed w R g s cap (s) sz (mix (xs.take (s)) gs (s - min (s - s) gs.length) (gs.length - min (s - s) gs.length) (min (s - s) gs.length))) := by
  obtain ⟨h0, h1, h2, h3, h4⟩ := reel_cells hb
  have f1 := reel_free hb 1
  have A := Lib.hid (And.intro hb (And.intro hrow (And.intro hl (And.intro hs (And.intro hne ha0)))))
  clear hb hrow hl hs hne ha0
  go_enter Tryd.func20, Tryd.ntmps20
  go_wp2
  go_quiet (fail)
  go_wp2
  go_region
  go_wp2
  have c1 : ((w.drewN (nq + 1)).setCell ⟨R, 1, none⟩ (.slice (some ⟨g, 0, none⟩) (s) s)).cell? ⟨R, 1, none⟩ = some (.slice (some ⟨g, 0, none⟩) (s) s) := World.cell?_setCell_same _ _ _ (show (w.drewN (nq + 1)).cell? ⟨R, 1, none⟩ = some _ from h1)
  have c2 : ((w.drewN (nq + 1)).setCell ⟨R, 1, none⟩ (.slice (some ⟨g, 0, none⟩) (s) s)).cell? ⟨R, 2, none⟩ = some (.int .i64 s) := by rw [World.cell?_setCell_other _ _ _ _ (by simp)]; exact h2
  generalize hW : (w.drewN (nq + 1)).setCell ⟨R, 1, none⟩ (.slice (some ⟨g, 0, none⟩) (s) s) = W1 at *
  have c1' : ({ heap := W1.heap, tape := W1.tape, drawn := W1.drawn + 1, os := W1.os, output := W1.output } : World).cell? ⟨R, 1, none⟩ = some (.slice (some ⟨g, 0, none⟩) (s) s) := c1
  have c2' : ({ heap := W1.heap, tape := W1.tape, drawn := W1.drawn + 1, os := W1.os, output := W1.output } : World).cell? ⟨R, 2, none⟩ = some (.int .i64 s) := c2
  have HW := Lib.hid hW
  clear hW h0 h1 h2 h3 h4 f1
  go_still_tail 10, (by kernel_rfl)
  change wpList _ _ _ _ _ W1.drew
  generalize hW2 : W1.drew = w2
  have B2 := Lib.hid (show w2.heap[R]? = some (.cells #[.int .i64 cap, .slice (some ⟨g, 0, none⟩) (s) s, .int .i64 s, .int .i64 left, .bool down] 59 (0, 0)) ∧ Row w2 g sz (s) (xs.take (s)) ∧ Keeps (fun k => k = R ∨ k = g) w w2 ∧ Src w2 a2 ng gs by
    obtain ⟨hb, hrow, hl, hs, hne, ha0⟩ := A.out
    have hRg : ∀ k, k ≠ R → w2.heap[k]? = w.heap[k]? := by
      intro k hk
      rw [← hW2, ← HW.out]
      exact Below.heap_setCell (w.drewN (nq + 1)) _ _ _ hk
    refine ⟨?_, (hrow.take (by omega)).same (hRg g hgR), ?_, ?_⟩
    · rw [← hW2, ← HW.out]
      exact (block_set (w := w.drewN (nq + 1)) (show (w.drewN (nq + 1)).heap[R]? = _ from hb) _).trans (by simp)
    · rw [← hW2, ← HW.out]
      exact (((Keeps.refl (fun k => k = R ∨ k = g) w).drewN (nq + 1)).setCell (p := ⟨R, 1, none⟩) (fun _ => Or.inl rfl) _).drew
    · obtain ⟨e1, e2, e3⟩ := hs
      refine ⟨e1, e2, ?_⟩
      rcases e3 with e3 | ⟨ad, rfl, e4⟩
      · exact Or.inl e3
      · refine Or.inr ⟨ad, rfl, fun j u hj => ?_⟩
        have hcell := e4 j u hj
        rw [← hcell]
        have hblk : (ad.add j).block = ad.block := by unfold Addr.add; split <;> rfl
        exact World.cell?_of_block (w := w) (hRg _ (by rw [hblk]; exact (hne (by rw [← e1]; have := (List.getElem?_eq_some_iff.1 hj).1; simp only [List.length_map] at this; omega) _ rfl).2)))
  have C0 := xorEnd_any w2 g s (s - s) (s - s) sz (s) (xs.take (s)) gs (some ⟨g, 0, none⟩) a2 ng d B2.out.2.1 (by rw [List.length_take, A.out.2.2.1]; omega) (by omega) (by omega) (by omega) (by omega) (by intro h; omega) (by intro h; cases h) B2.out.2.2.2 (fun hp ad e => (A.out.2.2.2.2.1 hp ad e).1) hd hdm A.out.2.2.2.2.2
  simp only [Nat.sub_self] at C0
  have C := Lib.hid C0
  clear c1 c2 c1' c2' hW2 HW C0
  go_wp2_with fail
  refine C.out.mono ?_
  rintro e w3 ⟨rfl, hrow3, hk3⟩
  obtain ⟨hb2, _, hk2, _⟩ := B2.out
  have hb3 := (hk3.block R (lt_of_block hb2) (fun h => hgR h.symm)).trans hb2
  obtain ⟨d0, d1, d2, d3, d4⟩ := reel_cells hb3
  have g2 := reel_free hb3 2
  have g3 := reel_free hb3 3
  have g4 := reel_free hb3 4
  have X := Lib.hid (crash_end (k := min (s - s) gs.length) hgR hb2 hk2 (by simp only [Nat.sub_self]; exact hrow3) hk3)
  skip
  clear hrow3 hk3 hb2 hk2 hb3
  go_wp2_with fail
  go_end0
  exact X.out

set_option maxHeartbeats 800000 in
theorem crash_high_ne (w : World) (R g s c len sz : Nat) (cap : Int) (keep : Int) (left : Int) (down : Bool) (a2 : Option Addr) (ng d : Nat) (xs gs : List Int) (hsl : s ≤ len) (hlc : len ≤ c) (hcm : c ≤ maxLen) (hlen : len ≤ 16777216)
    (hk0 : 0 ≤ keep) (hk : (len : Int) - s < keep) (hcs : ¬ c = s) (hgR : g ≠ R) (hb : w.heap[R]? = some (.cells #[.int .i64 cap, .slice (some ⟨g, 0, none⟩) len c, .int .i64 s, .int .i64 left, .bool down] 59 (0, 0)))
    (hrow : Row w g sz len xs) (hl : xs.length = len) (hs : Src w a2 ng gs) (hne : 0 < ng → ∀ ad, a2 = some ad → ad.block ≠ g ∧ ad.block ≠ R) (hd : ng ≤ d) (hdm : d ≤ maxLen) (ha0 : a2 = none → d = 0) :
    Calls Tryd.prog 20 #[.pointer (some ⟨R, 0, none⟩), .int .i64 keep, .slice a2 ng d] w
      (Crashed w R g c cap (len) sz (mix (xs.take (len)) gs (len - min (len - s) gs.length) (gs.length - min (len - s) gs.length) (min (len - s) gs.length))) := by
  obtain ⟨h0, h1, h2, h3, h4⟩ := reel_cells hb
  have f1 := reel_free hb 1
  have A := Lib.hid (And.intro hb (And.intro hrow (And.intro hl (And.intro hs (And.intro hne ha0)))))
  clear hb hrow hl hs hne ha0
  go_enter Tryd.func20, Tryd.ntmps20
  go_wp2
  go_quiet (fail)
  go_wp2
  go_region
  go_wp2
  have c1 : ((w.drewN (nq + 1)).setCell ⟨R, 1, none⟩ (.slice (some ⟨g, 0, none⟩) (len) c)).cell? ⟨R, 1, none⟩ = some (.slice (some ⟨g, 0, none⟩) (len) c) := World.cell?_setCell_same _ _ _ (show (w.drewN (nq + 1)).cell? ⟨R, 1, none⟩ = some _ from h1)
  have c2 : ((w.drewN (nq + 1)).setCell ⟨R, 1, none⟩ (.slice (some ⟨g, 0, none⟩) (len) c)).cell? ⟨R, 2, none⟩ = some (.int .i64 s) := by rw [World.cell?_setCell_other _ _ _ _ (by simp)]; exact h2
  generalize hW : (w.drewN (nq + 1)).setCell ⟨R, 1, none⟩ (.slice (some ⟨g, 0, none⟩) (len) c) = W1 at *
  have c1' : ({ heap := W1.heap, tape := W1.tape, drawn := W1.drawn + 1, os := W1.os, output := W1.output } : World).cell? ⟨R, 1, none⟩ = some (.slice (some ⟨g, 0, none⟩) (len) c) := c1
  have c2' : ({ heap := W1.heap, tape := W1.tape, drawn := W1.drawn + 1, os := W1.os, output := W1.output } : World).cell? ⟨R, 2, none⟩ = some (.int .i64 s) := c2
  have HW := Lib.hid hW
  clear hW h0 h1 h2 h3 h4 f1
  go_still_tail 10, (by kernel_rfl)
  change wpList _ _ _ _ _ W1.drew
  generalize hW2 : W1.drew = w2
  have B2 := Lib.hid (show w2.heap[R]? = some (.cells #[.int .i64 cap, .slice (some ⟨g, 0, none⟩) (len) c, .int .i64 s, .int .i64 left, .bool down] 59 (0, 0)) ∧ Row w2 g sz (len) (xs.take (len)) ∧ Keeps (fun k => k = R ∨ k = g) w w2 ∧ Src w2 a2 ng gs by
    obtain ⟨hb, hrow, hl, hs, hne, ha0⟩ := A.out
    have hRg : ∀ k, k ≠ R → w2.heap[k]? = w.heap[k]? := by
      intro k hk
      rw [← hW2, ← HW.out]
      exact Below.heap_setCell (w.drewN (nq + 1)) _ _ _ hk
    refine ⟨?_, (hrow.take (by omega)).same (hRg g hgR), ?_, ?_⟩
    · rw [← hW2, ← HW.out]
      exact (block_set (w := w.drewN (nq + 1)) (show (w.drewN (nq + 1)).heap[R]? = _ from hb) _).trans (by simp)
    · rw [← hW2, ← HW.out]
      exact (((Keeps.refl (fun k => k = R ∨ k = g) w).drewN (nq + 1)).setCell (p := ⟨R, 1, none⟩) (fun _ => Or.inl rfl) _).drew
    · obtain ⟨e1, e2, e3⟩ := hs
      refine ⟨e1, e2, ?_⟩
      rcases e3 with e3 | ⟨ad, rfl, e4⟩
      · exact Or.inl e3
      · refine Or.inr ⟨ad, rfl, fun j u hj => ?_⟩
        have hcell := e4 j u hj
        rw [← hcell]
        have hblk : (ad.add j).block = ad.block := by unfold Addr.add; split <;> rfl
        exact World.cell?_of_block (w := w) (hRg _ (by rw [hblk]; exact (hne (by rw [← e1]; have := (List.getElem?_eq_some_iff.1 hj).1; simp only [List.length_map] at this; omega) _ rfl).2)))
  have C0 := xorEnd_any w2 g s (len - s) (c - s) sz (len) (xs.take (len)) gs (some ⟨g, s, none⟩) a2 ng d B2.out.2.1 (by rw [List.length_take, A.out.2.2.1]; omega) (by omega) (by omega) (by omega) (by omega) (by intro h; rfl) (by intro h; cases h) B2.out.2.2.2 (fun hp ad e => (A.out.2.2.2.2.1 hp ad e).1) hd hdm A.out.2.2.2.2.2
  skip
  have C := Lib.hid C0
  clear c1 c2 c1' c2' hW2 HW C0
  go_wp2_with fail
  refine C.out.mono ?_
  rintro e w3 ⟨rfl, hrow3, hk3⟩
  obtain ⟨hb2, _, hk2, _⟩ := B2.out
  have hb3 := (hk3.block R (lt_of_block hb2) (fun h => hgR h.symm)).trans hb2
  obtain ⟨d0, d1, d2, d3, d4⟩ := reel_cells hb3
  have g2 := reel_free hb3 2
  have g3 := reel_free hb3 3
  have g4 := reel_free hb3 4
  have X := Lib.hid (crash_end (k := min (len - s) gs.length) hgR hb2 hk2 hrow3 hk3)
  skip
  clear hrow3 hk3 hb2 hk2 hb3
  go_wp2_with fail
  go_end0
  exact X.out

end Go.Proofs.YthddjfaeacmlhaaDoor.Re
