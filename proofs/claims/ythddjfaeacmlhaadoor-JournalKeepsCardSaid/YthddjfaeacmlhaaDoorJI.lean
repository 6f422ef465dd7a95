/- The document's example; the walk of JournalScans. -/
import Derived.Test.YthddjfaeacmlhaaDoorJE
import Derived.Test.YthddjfaeacmlhaaDoorJH
namespace Go.Proofs.YthddjfaeacmlhaaDoor
open Go.RowKit Jr
set_option linter.unusedVariables false

theorem recd_nil : recd [] = [0, 0, 0, 0, 33, 68, 223, 28] := by decide +kernel
theorem ex_bytes : (#[.int .u8 0, .int .u8 0, .int .u8 0, .int .u8 0, .int .u8 33, .int .u8 68, .int .u8 223, .int .u8 28] : Array Value).toList = bys [0, 0, 0, 0, 33, 68, 223, 28] := rfl
theorem scan_ex : scan (recd [] ++ [9]) = ([[]], 8) := by
  have h : ∀ p ∈ ([[]] : List (List Nat)), Fit p := by
    intro p hp
    simp only [List.mem_singleton] at hp
    subst hp
    exact ⟨by simp, fun x hx => by cases hx⟩
  have k := scan_then (ls := [[]]) h (r := [9]) (by intro x hx; simp only [List.mem_singleton] at hx; omega) (head_small (by simp))
  rw [recs_one] at k
  rw [k, recd_length]
  rfl
theorem nine_byte : Byte [9] := by intro x hx; simp only [List.mem_singleton] at hx; omega
set_option maxRecDepth 100000 in
set_option maxHeartbeats 1600000 in
theorem anchor_any (w : World) (hF : Fours w) : Calls Tryd.prog 8 #[] w (Yes w) := by
  have C1 := Lib.hid (record_any w none 0 0 [] (nil_arg w) (by omega) hF)
  have HF := Lib.hid hF
  clear hF
  go_enter Tryd.func8, Tryd.ntmps8
  go_wp2_with fail
  refine C1.out.mono ?_
  rintro e w1 ⟨a1, c1, rfl, ho1, hb1⟩
  have hr : Byte (recd []) := recd_byte (fun x hx => by cases hx)
  have k1 := arg_of_own ho1 hr
  have HK1 := Lib.hid k1
  have HB1 := Lib.hid hb1
  have hs1 := hb1.size
  obtain ⟨w2, hw2⟩ : ∃ w2, w2 = w1.alloc (.cells #[] 5) := ⟨_, rfl⟩
  have hb2 : Below w1.heap.size w1 w2 := by rw [hw2]; exact (Below.refl _ _).alloc (Nat.le_refl _) _
  have hO2 : w2.ownsRow w1.heap.size 5 1 (.slice (some ⟨w1.heap.size, 0, none⟩) 0 0) 0 (bys []) := by rw [hw2]; exact World.ownsRow_made (base := w1.heap.size) (e := 5) (size := 1) w1 #[] 0 (Nat.le_refl _) (Nat.zero_le _) (by simp)
  have H2 := Lib.hid (And.intro hO2 (k1.below hb2))
  have HW2 := Lib.hid hw2
  have HB2 := Lib.hid hb2
  have hs2 : w1.heap.size ≤ w2.heap.size := hb2.size
  simp only [List.length_nil, Nat.zero_add] at *
  clear ho1 hb1 k1 hb2 hO2 hw2
  go_wp2_with (at_builtin; go_must (rw [← HW2.out]; refine wpList_append_text rfl (.tmp 10) (.tmp 11) rfl w1.heap.size 0 (.slice (some ⟨w1.heap.size, 0, none⟩) 0 0) [] rfl H2.out.1 a1 8 c1 (recd []) rfl H2.out.2.1 H2.out.2.2.2 (by omega) (by omega) hs2 ?e4))
  intro a3 c3 w3 ho3 hg3 _
  have hb3 := grown_below (Nat.le_refl _) HB2.out hg3 (fun k e => (H2.out.1.lt k e).1)
  obtain ⟨w4, hw4⟩ : ∃ w4, w4 = w3.alloc (.cells #[.int .u8 9] 5) := ⟨_, rfl⟩
  have hb4 : Below w3.heap.size w3 w4 := by rw [hw4]; exact (Below.refl _ _).alloc (Nat.le_refl _) _
  have hO4 := own_kept ho3 (fun k e => hb4.block k (ho3.lt k e).2)
  have hN4 : Bytes w4 (some ⟨w3.heap.size, 0, none⟩) 1 [9] := by rw [hw4]; exact lit_bytes w3 _ [9] (0, 0) rfl nine_byte
  have H4 := Lib.hid (And.intro hO4 hN4)
  have HW4 := Lib.hid hw4
  have HB4 := Lib.hid (below_more hb3 hb4 (Nat.le_refl _))
  have hs4 : w1.heap.size ≤ w4.heap.size := HB4.out.size
  clear ho3 hg3 hb3 hw4 hb4 hO4 hN4
  go_wp2_with (at_builtin; go_must (rw [← HW4.out]; refine wpList_append_text rfl (.tmp 12) (.tmp 13) rfl w1.heap.size 8 (.slice a3 8 c3) (recd []) rfl H4.out.1 (some ⟨w3.heap.size, 0, none⟩) 1 1 [9] rfl H4.out.2 (by intro e; cases e) (by omega) (by omega) hs4 ?f4))
  intro a5 c5 w5 ho5 hg5 _
  have hb5 := grown_below (Nat.le_refl _) HB4.out hg5 (fun k e => (H4.out.1.lt k e).1)
  have k5 := arg_of_own ho5 (hr.append nine_byte)
  have C5 := scan_any w5 a5 9 c5 _ k5 (by omega) (HF.out.below (below_more HB1.out hb5 (Nat.le_refl _)))
  rw [scan_ex] at C5
  have C5 := Lib.hid C5
  have HB5 := Lib.hid hb5
  clear ho5 hg5 hb5 k5
  go_wp2_with fail
  refine C5.out.mono ?_
  rintro e w6 ⟨a6, c6, rfl, hT6, hb6⟩
  have hb6 := below_more HB5.out hb6 (Nat.le_refl _)
  obtain ⟨w7, hw7⟩ : ∃ w7, w7 = w6.alloc (.cells #[.int .u8 0, .int .u8 0, .int .u8 0, .int .u8 0, .int .u8 33, .int .u8 68, .int .u8 223, .int .u8 28] 5) := ⟨_, rfl⟩
  have hb7 : Below w6.heap.size w6 w7 := by rw [hw7]; exact (Below.refl _ _).alloc (Nat.le_refl _) _
  have hl7 : Arg w7 (some ⟨w6.heap.size, 0, none⟩) 8 8 [0, 0, 0, 0, 33, 68, 223, 28] := by
    rw [hw7]
    exact ⟨lit_bytes w6 _ [0, 0, 0, 0, 33, 68, 223, 28] (0, 0) ex_bytes (by decide), Nat.le_refl _, fun e => (by cases e)⟩
  have hb17 := below_more hb6 hb7 (Nat.le_refl _)
  have CS := same_any w7 a1 8 c1 (recd []) _ 8 8 _ (HK1.out.below hb17) hl7 (by omega) (by omega)
  rw [decide_eq_true recd_nil] at CS
  have CS := Lib.hid CS
  have HW7 := Lib.hid hw7
  have HB7 := Lib.hid (below_more HB1.out hb17 (Nat.le_refl _))
  clear hT6 hb6 hw7 hb7 hl7 hb17
  go_wp2_with fail
  rw [← HW7.out]
  refine CS.out.mono ?_
  rintro e w8 ⟨rfl, hb8⟩
  have X := Lib.hid (show Yes w (.returned (.bool true)) w8 from ⟨rfl, below_more HB7.out hb8 (Nat.le_refl _)⟩)
  clear hb8
  go_wp2_with fail
  go_ret
  exact X.out

end Go.Proofs.YthddjfaeacmlhaaDoor
