/- The walk of JournalScans. -/
import Derived.Test.YthddjfaeacmlhaaDoorJI
namespace Go.Proofs.YthddjfaeacmlhaaDoor
open Go.RowKit Jr
set_option linter.unusedVariables false

/-- Ahead of a law's own look: the anchor, the sizes. -/
theorem yes_later {w w1 w2 : World} (h : Below w.heap.size w w1) (h2 : Below w1.heap.size w1 w2) : Yes w (.returned (.bool true)) w2 := ⟨rfl, below_more h h2 (Nat.le_refl _)⟩
set_option maxHeartbeats 800000 in
theorem scans_out (w : World) (a : Option Addr) (n c : Nat) (b : Option Addr) (m d : Nat) (hF : Fours w) (h : 3000 < n ∨ 3000 < m) : Calls Tryd.prog 3 #[.slice a n c, .slice b m d] w (Yes w) := by
  have A := Lib.hid (anchor_any w hF)
  clear hF
  by_cases h0 : 3000 < n
  · have t0 : decide ((3000 : Int) < n) = true := by simp; omega
    go_enter Tryd.func3, Tryd.ntmps3
    go_wp2_with fail
    refine A.out.mono ?_
    rintro e w1 ⟨rfl, hk⟩
    have HK := Lib.hid hk
    clear hk
    go_wp2_with fail
    go_ret
    exact ⟨rfl, HK.out⟩
  · have t0 : decide ((3000 : Int) < n) = false := by simp; omega
    have t1 : decide ((3000 : Int) < m) = true := by simp; omega
    go_enter Tryd.func3, Tryd.ntmps3
    go_wp2_with fail
    refine A.out.mono ?_
    rintro e w1 ⟨rfl, hk⟩
    have HK := Lib.hid hk
    clear hk
    go_wp2_with fail
    go_ret
    exact ⟨rfl, HK.out⟩
set_option maxRecDepth 100000 in
set_option maxHeartbeats 1600000 in
theorem scans_good (w : World) (a : Option Addr) (n c : Nat) (xs : List Nat) (b : Option Addr) (m d : Nat) (ys : List Nat) (hF : Fours w) (hx : Arg w a n c xs) (hy : Arg w b m d ys) (h0 : n ≤ 3000) (h1 : m ≤ 3000) : Calls Tryd.prog 3 #[.slice a n c, .slice b m d] w (Yes w) := by
  have HL := Lib.hid hy.len
  have A := Lib.hid (anchor_any w hF)
  have HX := Lib.hid (And.intro hx (And.intro hy hF))
  have t0 : decide ((3000 : Int) < n) = false := by simp; omega
  have t1 : decide ((3000 : Int) < m) = false := by simp; omega
  have hfnd := (scan_found hx.byte).1
  have hle : (scan xs).1.length ≤ 3000 := by
    have k := scan_end hx.byte
    have k2 := (scan_found hx.byte).2.1
    have k3 : ∀ ls : List (List Nat), ls.length ≤ (recs ls).length := by
      intro ls
      induction ls with
      | nil => simp
      | cons p ls ih => rw [recs_cons, List.length_append, recd_length, List.length_cons]; omega
    have := k3 (scan xs).1
    have := hx.len
    omega
  have HFN := Lib.hid (And.intro hfnd hle)
  clear hx hy hF hfnd hle
  go_enter Tryd.func3, Tryd.ntmps3
  go_wp2_with fail
  refine A.out.mono ?_
  rintro e w1 ⟨rfl, hk⟩
  have C1 := Lib.hid (scan_any w1 a n c xs (HX.out.1.below hk) (by omega) (HX.out.2.2.below hk))
  have HK1 := Lib.hid hk
  clear hk
  obtain ⟨ps, hps⟩ : ∃ ps, ps = (scan xs).1 := ⟨_, rfl⟩
  obtain ⟨E, hE⟩ : ∃ E, E = (scan xs).2 := ⟨_, rfl⟩
  have hr : scan xs = (ps, E) := by rw [hps, hE]
  rw [hr] at C1
  have HR := Lib.hid hr
  rw [← hps] at HFN
  clear hr hps hE
  go_wp2_with fail
  refine C1.out.mono ?_
  rintro e w2 ⟨a2, c2, rfl, hT2, hb2⟩
  have hk2 := below_more HK1.out hb2 (Nat.le_refl _)
  have C2 := docScan_any w2 a n c xs (HX.out.1.below hk2) (by omega)
  rw [HR.out] at C2
  have C2 := Lib.hid C2
  have HT2 := Lib.hid hT2
  have HK2 := Lib.hid hk2
  clear hT2 hb2 hk2
  go_wp2_with fail
  refine C2.out.mono ?_
  rintro e w3 ⟨a3, c3, rfl, hT3, hb3⟩
  have hk3 := below_more HK2.out hb3 (Nat.le_refl _)
  have HT3 := Lib.hid (And.intro (HT2.out.below hb3) hT3)
  have C3 := Lib.hid (record_any w3 b m d ys (HX.out.2.1.below hk3) (by omega) (HX.out.2.2.below hk3))
  have HK3 := Lib.hid hk3
  clear hT3 hb3 hk3
  go_wp2_with fail
  refine C3.out.mono ?_
  rintro e w4 ⟨a4, c4, rfl, ho4, hb4⟩
  rw [HL.out] at ho4 ⊢
  have hk4 := below_more HK3.out hb4 (Nat.le_refl _)
  have hyb := HX.out.2.1.byte
  have k4 := arg_of_own ho4 (recd_byte hyb)
  have HA4 := Lib.hid k4
  have CS := sameL_any w4 _ _ _ _ _ _ _ _ _ _ (HT3.out.1.below hb4) (HT3.out.2.below hb4) (by have := HFN.out.2; omega) (by have := HFN.out.2; omega) (fun p hp => by have := (HFN.out.1 p hp).1; omega) (fun p hp => by have := (HFN.out.1 p hp).1; omega)
  rw [decide_eq_true rfl] at CS
  have CS := Lib.hid CS
  have HK4 := Lib.hid hk4
  clear ho4 hb4 hk4 k4 hyb
  go_wp2_with fail
  refine CS.out.mono ?_
  rintro e w5 ⟨rfl, hb5⟩
  have hk5 := below_more HK4.out hb5 (Nat.le_refl _)
  have C5 := Lib.hid (docRecord_any w5 b m d ys (HX.out.2.1.below hk5) (by omega))
  have HA5 := Lib.hid (HA4.out.below hb5)
  have HK5 := Lib.hid hk5
  clear hb5 hk5
  go_wp2_with fail
  refine C5.out.mono ?_
  rintro e w6 ⟨a6, c6, rfl, ho6, hb6⟩
  rw [HL.out] at ho6 ⊢
  have hk6 := below_more HK5.out hb6 (Nat.le_refl _)
  have k6 := arg_of_own ho6 (recd_byte HX.out.2.1.byte)
  have C6 := same_any w6 _ _ _ _ _ _ _ _ (HA5.out.below hb6) k6 (by omega) (by omega)
  rw [decide_eq_true rfl] at C6
  have C6 := Lib.hid C6
  have HK6 := Lib.hid hk6
  clear ho6 hb6 hk6 k6
  go_wp2_with fail
  refine C6.out.mono ?_
  rintro e w7 ⟨rfl, hb7⟩
  have X := Lib.hid (yes_later HK6.out hb7)
  clear hb7
  go_wp2_with fail
  go_ret
  exact X.out
end Go.Proofs.YthddjfaeacmlhaaDoor
