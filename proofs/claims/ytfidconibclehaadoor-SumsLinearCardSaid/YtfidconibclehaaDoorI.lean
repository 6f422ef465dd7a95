/- Any text, in whatever parts: the walk of SumsOf. -/
import Derived.Test.YtfidconibclehaaDoorH
namespace Go.Proofs.YtfidconibclehaaDoor
open Go.RowKit
set_option linter.unusedVariables false

theorem Texts.below {w w' : World} {a : Option Addr} {n : Nat} {ls : List (List Nat)} (h : Texts w a n ls) (hb : Below w.heap.size w w') : Texts w' a n ls := h.later hb.block
theorem flat_part {ls : List (List Nat)} {ys : List Nat} (h : ys ∈ ls) : ys.length ≤ ls.flatten.length := by
  induction ls with
  | nil => cases h
  | cons l ls ih =>
    rw [List.flatten_cons, List.length_append]
    rcases List.mem_cons.1 h with e | e
    · rw [e]; omega
    · have := ih e; omega

theorem of_long (a : Option Addr) (n c : Nat) (w : World) (hF : Fours w) (h : 100 < n) : Calls Tryd.prog 3 #[.slice a n c] w (Yes w) := by
  have A := Lib.hid (anchor_any w hF)
  clear hF
  have t0 : decide ((100 : Int) < n) = true := by simp; omega
  go_enter Tryd.func3, Tryd.ntmps3
  go_wp2_with fail
  refine A.out.mono ?_
  rintro e w1 ⟨rfl, hk⟩
  have HK := Lib.hid hk
  clear hk
  go_wp2_with fail
  go_ret
  exact ⟨rfl, HK.out⟩

set_option maxRecDepth 100000 in
set_option maxHeartbeats 1600000 in
theorem of_good (a : Option Addr) (n c : Nat) (ls : List (List Nat)) (w : World) (hF : Fours w) (h0 : n ≤ 100) (ht : Texts w a n ls) : Calls Tryd.prog 3 #[.slice a n c] w (Yes w) := by
  have A := Lib.hid (anchor_any w hF)
  have HT := Lib.hid ht
  have HF := Lib.hid hF
  clear hF ht
  have t0 : decide ((100 : Int) < n) = false := by simp; omega
  go_enter Tryd.func3, Tryd.ntmps3
  go_wp2_with fail
  refine A.out.mono ?_
  rintro e w1 ⟨rfl, hk⟩
  have HK := Lib.hid hk
  clear hk
  go_wp2_with fail
  go_loopw [3, 13] (fun v cnt wr => ∃ (i : Nat) (aa : Option Addr) (m cap : Nat), i ≤ n ∧ cnt = .int .i64 i ∧ v = .slice aa m cap ∧ (ls.take i).flatten.length = m ∧ m ≤ 5000 ∧ wr.ownsRow w.heap.size 5 1 (.slice aa m cap) m (bys (ls.take i).flatten) ∧ Below w.heap.size w wr) (fun _ cnt _ => n - (intOf cnt).toNat)
  case atStart => exact ⟨0, none, 0, 0, Nat.zero_le _, rfl, rfl, rfl, Nat.zero_le _, World.ownsRow_nil _ _ _ _, HK.out⟩
  case round =>
    obtain ⟨i, aa, m, cap, hi, rfl, rfl, hm, hm5, hown, hk⟩ := hrel
    by_cases hlt : i < n
    · obtain ⟨ys, b, off, a', l, c', hy, rfl, hcell, hlc, hb⟩ := (HT.out.below hk).at hlt
      have HO := Lib.hid hown
      have HB := Lib.hid hb
      have HLC := Lib.hid hlc
      have HK1 := Lib.hid hk
      have HM := Lib.hid hm
      have HN := Lib.hid (flat_more hy)
      clear hown hb hlc hk hm
      by_cases hbig : 5000 - m < l
      · have u : decide ((5000 : Int) - (m : Int) < (l : Int)) = true := by simp only [decide_eq_true_eq]; omega
        go_wp2_with fail
        go_ret
        exact ⟨rfl, HK1.out⟩
      · have u : decide ((5000 : Int) - (m : Int) < (l : Int)) = false := by simp only [decide_eq_false_iff_not]; omega
        have hwr : w.heap.size ≤ wr.heap.size := HK1.out.size
        go_wp2_with (at_builtin; go_must (refine wpList_append_text rfl (.tmp 23) (.tmp 24) rfl w.heap.size m (.slice aa m cap) (ls.take i).flatten rfl ?e1 a' l c' ys rfl ?e2 HLC.out.2 (by omega) (by omega) hwr ?e4))
        case e1 => exact HO.out
        case e2 => exact HB.out
        case e4 =>
          intro aa2 cap2 w2 hown hg hat
          have hk2 : Below w.heap.size w w2 := grown_below (Nat.le_refl _) HK1.out hg (fun k e => (HO.out.lt k e).1)
          rw [← HN.out] at hown
          have X := Lib.hid (And.intro hown hk2)
          clear hown hk2 hg hat
          go_wp2_with fail
          go_roundw
          case rel => exact ⟨i + 1, aa2, m + l, cap2, by omega, by go_num, rfl, by rw [HN.out, List.length_append, HM.out, HB.out.1], by omega, X.out.1, X.out.2⟩
          case measure => simp [intOf]; omega
    · obtain rfl : i = n := by omega
      have e : ls.take i = ls := by rw [List.take_of_length_le (by rw [HT.out.1]; exact Nat.le_refl _)]
      rw [e] at hm hown
      have hbyte := HT.out.byte i
      rw [e] at hbyte
      have hs : ∀ ys ∈ ls, ys.length ≤ 16777216 := fun ys hys => by have := flat_part hys; omega
      have hall := bytes_of_own hown hbyte
      have C1 := Lib.hid (crc_any wr a i c ls (by omega) hs (HT.out.below hk) (HF.out.below hk))
      have C2 := Lib.hid (docCrc_any wr aa m cap ls.flatten (by omega) hall.1)
      have D1 := Lib.hid (adler_any wr a i c ls (by omega) hs (HT.out.below hk))
      have D2 := Lib.hid (docAdler_any wr aa m cap ls.flatten (by omega) hall.1)
      have HK1 := Lib.hid hk
      clear hown hk hall hbyte hm e hs
      generalize Sums.crc ls.flatten = x at *
      generalize Sums.adler ls.flatten = y at *
      go_wp2_with fail
      refine C1.out.mono ?_
      rintro e w3 ⟨rfl, rfl⟩
      go_wp2_with fail
      refine C2.out.mono ?_
      rintro e w3 ⟨rfl, rfl⟩
      go_wp2_with fail
      refine D1.out.mono ?_
      rintro e w3 ⟨rfl, rfl⟩
      go_wp2_with fail
      refine D2.out.mono ?_
      rintro e w3 ⟨rfl, rfl⟩
      go_wp2_with fail
      go_ret
      exact ⟨rfl, HK1.out⟩
end Go.Proofs.YtfidconibclehaaDoor
