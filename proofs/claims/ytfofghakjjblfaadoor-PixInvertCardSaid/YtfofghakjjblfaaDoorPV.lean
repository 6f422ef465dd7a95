/- PixTables. -/
import Derived.Test.YtfofghakjjblfaaDoorPUg
import Derived.Test.YtfofghakjjblfaaDoorPUh
import Derived.Test.YtfofghakjjblfaaDoorPG
namespace Go.Proofs.YtfofghakjjblfaaDoor
open Go.RowKit
set_option linter.unusedVariables false

theorem docTable_yes (w : World) (a : Option Addr) (n c : Nat) (zs : List Int) (hn : n ≤ 16777216) (hnc : n ≤ c) (h : Ints w a n zs) (kind : Int) (hf : Px.Fits kind zs) : Calls Tryd.prog 24 #[.int .i64 kind, .slice a n c] w (Tabled w (Px.repl kind zs)) := by
  have hl := h.1
  obtain ⟨hB, ⟨rfl, h1, h2⟩ | ⟨rfl, hp⟩ | ⟨rfl, h1⟩ | ⟨rfl, h1⟩⟩ := hf
  · exact docTable_levels w a n c zs hn h hB (by omega) h2
  · exact docTable_curve w a n c zs hn h hB hnc (by rw [← hl]; exact hp.1) (by rw [← hl]; exact hp.2.1) (by rw [← hl]; exact hp.2.2.1) hp
  · exact docTable_invert w a n c zs hn h hB (by omega)
  · exact docTable_threshold w a n c zs hn h hB (by omega)
theorem docTable_no (w : World) (a : Option Addr) (n c : Nat) (zs : List Int) (hn : n ≤ 16777216) (hnc : n ≤ c) (h : Ints w a n zs) (kind : Int) (hf : ¬ Px.Fits kind zs) : Calls Tryd.prog 24 #[.int .i64 kind, .slice a n c] w (DocNo w) := by
  have hl := h.1
  by_cases hB : Px.Bytes zs
  · by_cases hk : 0 ≤ kind ∧ kind ≤ 3
    · have hc : kind = 0 ∨ kind = 1 ∨ kind = 2 ∨ kind = 3 := by omega
      rcases hc with rfl | rfl | rfl | rfl
      · by_cases h2 : n = 2
        · exact docTable_levels_no w a n c zs hn h hB h2 (fun hh => hf ⟨hB, .inl ⟨rfl, by omega, hh⟩⟩)
        · exact docTable_levels_no2 w a n c zs hn h hB h2
      · by_cases h2 : n < 2
        · exact docTable_curve_no1 w a n c zs hn h hB h2
        · by_cases h3 : 32 < n
          · exact docTable_curve_no2 w a n c zs hn h hB h3
          · by_cases h4 : n % 2 = 0
            · exact docTable_curve_no w a n c zs hn h hB hnc (by omega) (by omega) h4 (fun hp => hf ⟨hB, .inr (.inl ⟨rfl, hp⟩)⟩)
            · exact docTable_curve_no3 w a n c zs hn h hB (by omega) (by omega) h4
      · exact docTable_invert_no w a n c zs hn h hB (fun h0 => hf ⟨hB, .inr (.inr (.inl ⟨rfl, by omega⟩))⟩)
      · exact docTable_threshold_no w a n c zs hn h hB (fun h0 => hf ⟨hB, .inr (.inr (.inr ⟨rfl, by omega⟩))⟩)
    · exact docTable_other w a n c zs hn h kind hB hk
  · exact docTable_bad w a n c zs hn h kind hB

set_option maxRecDepth 100000 in
set_option maxHeartbeats 1600000 in
theorem tables_long (kind : Int) (a : Option Addr) (n c : Nat) (w : World) (hW : Ways w) (h0 : 100 < n) : Calls Tryd.prog 6 #[.int .i64 kind, .slice a n c] w (Yes w) := by
  have A := Lib.hid (anchor_any w hW)
  have t : decide ((100 : Int) < n) = true := by simp; omega
  clear hW
  go_enter Tryd.func6, Tryd.ntmps6
  go_wp2_with fail
  refine A.out.mono ?_
  rintro e w2 ⟨rfl, hk⟩
  have HK := Lib.hid hk
  clear hk
  go_wp2_with fail
  go_ret
  exact ⟨rfl, HK.out⟩
set_option maxRecDepth 100000 in
set_option maxHeartbeats 1600000 in
theorem tables_no (kind : Int) (a : Option Addr) (n c : Nat) (zs : List Int) (w : World) (hW : Ways w) (hn : n ≤ 100) (hnc : n ≤ c) (h : Ints w a n zs) (hf : ¬ Px.Fits kind zs) : Calls Tryd.prog 6 #[.int .i64 kind, .slice a n c] w (Yes w) := by
  have A := Lib.hid (anchor_any w hW)
  have t : decide ((100 : Int) < n) = false := by simp; omega
  have H := Lib.hid h
  have HF := Lib.hid hf
  clear hW h hf
  go_enter Tryd.func6, Tryd.ntmps6
  go_wp2_with fail
  refine A.out.mono ?_
  rintro e w2 ⟨rfl, hk⟩
  have HK := Lib.hid hk
  have C := Lib.hid (table_no w2 a n c zs (by omega) (H.out.later hk) kind HF.out)
  clear hk
  go_wp2_with fail
  refine C.out.mono ?_
  rintro e w3 ⟨rfl, hk⟩
  have HK2 := Lib.hid (HK.out.next hk)
  have D := Lib.hid (docTable_no w3 a n c zs (by omega) hnc (H.out.later (HK.out.next hk)) kind HF.out)
  clear hk
  go_wp2_with fail
  refine D.out.mono ?_
  rintro e w4 ⟨a', l', c', rfl, hk⟩
  have HK3 := Lib.hid (HK2.out.next hk)
  clear hk
  go_wp2_with fail
  go_ret
  exact ⟨rfl, HK3.out⟩
set_option maxRecDepth 100000 in
set_option maxHeartbeats 1600000 in
theorem tables_yes (kind : Int) (a : Option Addr) (n c : Nat) (zs : List Int) (w : World) (hW : Ways w) (hn : n ≤ 100) (hnc : n ≤ c) (h : Ints w a n zs) (hf : Px.Fits kind zs) : Calls Tryd.prog 6 #[.int .i64 kind, .slice a n c] w (Yes w) := by
  have A := Lib.hid (anchor_any w hW)
  have t : decide ((100 : Int) < n) = false := by simp; omega
  have H := Lib.hid h
  have HF := Lib.hid hf
  clear hW h hf
  go_enter Tryd.func6, Tryd.ntmps6
  go_wp2_with fail
  refine A.out.mono ?_
  rintro e w2 ⟨rfl, hk⟩
  have HK := Lib.hid hk
  have C := Lib.hid (table_yes w2 a n c zs (by omega) hnc (H.out.later hk) kind HF.out)
  clear hk
  go_wp2_with fail
  refine C.out.mono ?_
  rintro e w3 ⟨B, rfl, hT, hk, hlow⟩
  have HK2 := Lib.hid (HK.out.next hk)
  have T1 := Lib.hid hT
  have D := Lib.hid (docTable_yes w3 a n c zs (by omega) hnc (H.out.later (HK.out.next hk)) kind HF.out)
  clear hk hT hlow
  go_wp2_with fail
  refine D.out.mono ?_
  rintro e w4 ⟨B2, rfl, hT, hk, hlow⟩
  have HK3 := Lib.hid (HK2.out.next hk)
  have T2 := Lib.hid hT
  have T3 := Lib.hid (T1.out.later hk)
  clear hk hT hlow
  go_wp2_with fail
  go_loopw [41] (fun cnt wr => ∃ k : Nat, k ≤ 256 ∧ cnt = .int .i64 k ∧ wr = w4) (fun cnt _ => 256 - (intOf cnt).toNat)
  case atStart => exact ⟨0, by omega, rfl, rfl⟩
  case round =>
    obtain ⟨k, hk, rfl, rfl⟩ := hrel
    by_cases hlt : k < 256
    · have hki : (k : Int) < 256 := by omega
      have c1 := T2.out.at hlt
      have c2 := T3.out.at hlt
      generalize Px.repl kind zs k = r at *
      go_wp2_with fail
      go_roundw
      case rel => exact ⟨k + 1, by omega, by go_num, trivial⟩
      case measure => simp [intOf]; omega
    · obtain rfl : k = 256 := by omega
      go_wp2_with fail
      go_ret
      exact ⟨rfl, HK3.out⟩
theorem tables_walk (kind : Int) (a : Option Addr) (n c : Nat) (zs : List Int) (w : World) (hW : Ways w) (h : n ≤ c ∧ Ints w a n zs) : Calls Tryd.prog 6 #[.int .i64 kind, .slice a n c] w (Yes w) := by
  by_cases h0 : 100 < n
  · exact tables_long kind a n c w hW h0
  · by_cases hf : Px.Fits kind zs
    · exact tables_yes kind a n c zs w hW (by omega) h.1 h.2 hf
    · exact tables_no kind a n c zs w hW (by omega) h.1 h.2 hf
end Go.Proofs.YtfofghakjjblfaaDoor
