/- The walk of the document's reel's crash. -/
import Derived.Test.YtccfjpjhkaicgaaP
namespace Go.Proofs.Ytccfjpjhkaicgaa
open Go.RowKit

/-- How many bytes are left. -/
def M.left_ (m : M) (keep : Int) : Nat := m.safe.toNat + (min (max keep 0) ((m.xs.length : Int) - m.safe)).toNat

set_option maxHeartbeats 800000 in
theorem twinCrash_some (w : World) (B T : Nat) (g0 : Nat) (m : M) (h : Twin w B T (some g0) m) (hB : B ≤ w.heap.size) (keep : Int) (a2 : Option Addr) (ng d : Nat) (gs : List Int) (hs : Src w a2 ng gs) (hf : Fits a2 ng d) (hk0 : -9223372036854775808 ≤ keep) (hk1 : keep ≤ 9223372036854775807) :
    Calls Try.prog 23 #[.pointer (some ⟨T, 0, none⟩), .int .i64 keep, .slice a2 ng d] w (TwinCrashed w B T (m.crash keep gs)) := by
  have ok := h.ok
  have hT := h.lt
  have hdm := hf.2.1
  have hnd := hf.1
  unfold maxLen at hdm
  obtain ⟨s, hsafe⟩ := Int.eq_ofNat_of_zero_le ok.safe0
  have hsl : s ≤ m.xs.length := by have := ok.safe1; omega
  have hl0 : m.xs.length ≤ 16777216 := by have := ok.len; have := ok.cap1; omega
  obtain ⟨t, ht⟩ : ∃ t, m.left_ keep = t := ⟨_, rfl⟩
  have hst : s ≤ t := by unfold M.left_ at ht; omega
  have htl : t ≤ m.xs.length := by unfold M.left_ at ht; omega
  have hkeep1 : (t : Int) - s < keep → t = m.xs.length := by unfold M.left_ at ht; omega
  have hkeep2 : ∀ i : Nat, s ≤ i → i < t → (i : Int) - s < keep := by unfold M.left_ at ht; intro i; omega
  have HK1 := Lib.hid hkeep1
  have HK2 := Lib.hid hkeep2
  clear hkeep1 hkeep2
  have HM := Lib.hid (show m.crash keep gs = { cap := m.cap, xs := mix (m.xs.take t) gs (t - min (t - s) gs.length) (gs.length - min (t - s) gs.length) (min (t - s) gs.length), safe := t, left := -1, down := false } by
    have en : (min (max keep 0) ((m.xs.length : Int) - m.safe)).toNat = t - s := by unfold M.left_ at ht; omega
    simp only [M.crash, en]
    rw [show m.safe.toNat + (t - s) = t by omega])
  have HO := Lib.hid (crash_ok ok keep gs hs.2.1)
  have HLT := Lib.hid (show (m.xs.take t).length = t by rw [List.length_take]; omega)
  obtain ⟨c, l, hb, hl, hxs, hfx⟩ := h.holds
  obtain ⟨h0, h1, h2, h3, h4, h5⟩ := twin_cells hb
  rw [hsafe] at h2
  have hlc : m.xs.length ≤ c := hfx.1
  have H := Lib.hid h
  have HB := Lib.hid hb
  have HS := Lib.hid hs
  have HX := Lib.hid hxs
  have HF := Lib.hid hf
  clear ok hsafe h hb hl hxs hfx hs hf ht h1 h3 h4 h5
  simp only [headOf, Option.map_some, Option.map_none] at h0
  go_enter Try.func23, Try.ntmps23
  go_wp2_with fail
  go_loop [6] (fun v => ∃ i : Nat, s ≤ i ∧ i ≤ t ∧ v = .int .i64 i) (fun v => t - (intOf v).toNat)
  case atStart => exact ⟨s, Nat.le_refl _, hst, rfl⟩
  case round =>
    obtain ⟨i, hi1, hi2, rfl⟩ := hrel
    by_cases hlt : i < t
    · have t1 : decide ((i : Int) < m.xs.length) = true := by simp; omega
      have t2 : decide ((i : Int) - s < keep) = true := by have := HK2.out i hi1 hlt; simp; omega
      go_wp2
      go_round
      case rel => exact ⟨i + 1, by omega, by omega, by go_num⟩
      case measure => simp [intOf]; omega
    · obtain rfl : i = t := by omega
      have ft : i = m.xs.length ∨ (i < m.xs.length ∧ ¬ (i : Int) - s < keep) := by have := HK1.out; omega
      rcases ft with ft | ⟨ft1, ft2⟩
      · have t1 : decide (i < m.xs.length) = false := by simp; omega
        have FT := Lib.hid ft
        clear ft
        have hic : i ≤ c := by omega
        have OW := Lib.hid (World.ownsRow_made (base := B) (e := 5) (size := 1) w #[] 0 hB (Nat.zero_le _) (by simp))
        have SX := Lib.hid (show Src (w.alloc (.cells #[] 5)) (some ⟨g0, 0, none⟩) i (m.xs.take i) from (src_take HX.out htl).later (fun k hk => Below.heap_alloc _ _ _ hk))
        go_wp2_with (at_builtin; refine wpList_append_src rfl (.tmp 32) (.tmp 38) rfl B w.heap.size 0 0 [] rfl OW.out (some ⟨g0, 0, none⟩) i c (m.xs.take i) rfl SX.out (by intro e; cases e) (by omega) (by simp; omega) ?_)
        intro g cap w2 hown hgrow hat
        have hk2 : Keeps (fun k => w.heap.size ≤ k) w w2 := ((Keeps.refl _ _).alloc _).grown hgrow (by intro k hk e; cases e; exact Nat.le_refl _)
        have hg1 : w.heap.size ≤ g := by rcases hat with e | e <;> omega
        have hrow : Row w2 g cap i (m.xs.take i) ∧ g < w2.heap.size ∧ (i ≤ cap ∧ cap ≤ maxLen) := by
          rcases hown.2 with ⟨e, _⟩ | ⟨g', cap', cur, e, _, hh, p1, p2, p3, p4⟩
          · cases e
          · cases e
            exact ⟨⟨cur, hh, by simpa using p3, by simpa using p4⟩, lt_of_block hh, by simpa using p1, p2⟩
        have hT2 : w2.heap[T]? = w.heap[T]? := hk2.block T hT (by omega)
        have d2 : w2.cell? ⟨T, 2, none⟩ = some (.int .i64 s) := by rw [← h2]; exact World.cell?_of_block (w := w) hT2
        have GA := Lib.hid (fun j x (hj : gs[j]? = some x) => show ∃ gb go_, a2 = some ⟨gb, go_, none⟩ ∧ w.cell? ⟨gb, go_ + j, none⟩ = some (.int .u8 x) from src_cell HS.out hj)
        have HR := Lib.hid hrow
        have HK := Lib.hid hk2
        have HG := Lib.hid hg1
        obtain ⟨kk, hkk⟩ : ∃ kk, min (i - s) gs.length = kk := ⟨_, rfl⟩
        have hkk1 : kk ≤ i - s := by omega
        have hkk2 : kk ≤ ng := by have := HS.out.1; omega
        have hkk3 : kk = i - s ∨ kk = ng := by have := HS.out.1; omega
        have HKK := Lib.hid hkk
        have HK3 := Lib.hid hkk3
        have HNG := Lib.hid HS.out.1
        have H2 := Lib.hid h2
        clear hown hgrow hat hk2 hrow h0 h2 hkk hkk3 hg1
        have HT2 := Lib.hid (hT2 : w2.heap[T]? = w.heap[T]?)
        clear hT2
        go_wp2_with fail
        go_loopw [8] (fun v wr => ∃ j : Nat, j ≤ kk ∧ v = .int .i64 ((j : Int) + 1) ∧ Backed w2 g cap i (m.xs.take i) gs gs.length j wr) (fun v _ => kk + 1 - (intOf v).toNat)
        case atStart => exact ⟨0, Nat.zero_le _, rfl, HR.out.1, Keeps.refl _ _⟩
        case round =>
          obtain ⟨j, hj, rfl, hbk⟩ := hrel
          have BK := Lib.hid hbk
          have hTr : wr.heap[T]? = w.heap[T]? := (hbk.2.block T (Nat.lt_of_lt_of_le hT HK.out.size) (by have := HG.out; omega)).trans HT2.out
          have d2 : wr.cell? ⟨T, 2, none⟩ = some (.int .i64 s) := by rw [← H2.out]; exact World.cell?_of_block (w := w) hTr
          have HTR := Lib.hid hTr
          clear hbk hTr
          by_cases hlt : j < kk
          · have t1 : decide ((j : Int) + 1 ≤ ng) = true := by simp; omega
            have t2 : decide ((j : Int) + 1 ≤ (i : Int) - s) = true := by simp; omega
            obtain ⟨x, hx⟩ : ∃ x, (m.xs.take i)[i - (j + 1)]? = some x := by
              have h1 := HLT.out
              exact ⟨_, List.getElem?_eq_getElem (by omega)⟩
            obtain ⟨y, hy⟩ : ∃ y, gs[gs.length - (j + 1)]? = some y := by
              have h1 := HNG.out
              exact ⟨_, List.getElem?_eq_getElem (by omega)⟩
            obtain ⟨gb, go_, rfl, hcell⟩ := GA.out _ _ hy
            have hgb := World.block_lt_of_cell? w _ hcell
            simp only at hgb
            have c1 : wr.cell? ⟨g, i - (j + 1), none⟩ = some (.int .u8 x) := BK.out.1.cell (by rw [mix_get, if_neg (by omega)]; exact hx)
            have c2 : wr.cell? ⟨gb, go_ + (ng - (j + 1)), none⟩ = some (.int .u8 y) := by
              rw [← hcell, HNG.out]
              have e1 := BK.out.2.block gb (Nat.lt_of_lt_of_le hgb HK.out.size) (by have := HG.out; omega)
              have e2 := HK.out.block gb hgb (by omega)
              exact World.cell?_of_block (w := w) (e1.trans e2)
            have f1 : wr.frozen? ⟨g, i - (j + 1), none⟩ = false := BK.out.1.free _
            have hX := Lib.hid hx
            have hY := Lib.hid hy
            clear hx hy hcell
            go_wp2
            go_region
            go_wp2
            go_roundw
            case rel => exact ⟨j + 1, hlt, by go_num, BK.out.step (by omega) (by have := HNG.out; omega) hX.out hY.out⟩
            case measure => simp [intOf]; omega
          · obtain rfl : j = kk := by omega
            have hb := HTR.out.trans HB.out
            obtain ⟨e0, e1, e2, e3, e4, e5⟩ := twin_cells hb
            have f0 := reel_free hb 0
            have f2 := reel_free hb 2
            have f4 := reel_free hb 4
            have f5 := reel_free hb 5
            have X := Lib.hid (twin_end (k := j) (keep := keep) H.out hB HK.out HG.out HR.out.2.1 HR.out.2.2 BK.out (by rw [HM.out, HKK.out]) HO.out HLT.out)
            clear hb e1 e2 e3
            rcases (show ng < j + 1 ∨ (j + 1 ≤ ng ∧ i - s < j + 1) by have := HK3.out; omega) with ft | ⟨ft1, ft2⟩
            · have t1 : decide ((j : Int) + 1 ≤ ng) = false := by simp; omega
              go_wp2
              go_end0
              exact X.out
            · have t1 : decide ((j : Int) + 1 ≤ ng) = true := by simp; omega
              have t2 : decide ((j : Int) + 1 ≤ (i : Int) - s) = false := by simp; omega
              go_wp2
              go_end0
              exact X.out
      · have t1 : decide (i < m.xs.length) = true := by simp; omega
        have t2 : decide ((i : Int) - s < keep) = false := by simp; omega
        clear ft2
        have hic : i ≤ c := by omega
        have OW := Lib.hid (World.ownsRow_made (base := B) (e := 5) (size := 1) w #[] 0 hB (Nat.zero_le _) (by simp))
        have SX := Lib.hid (show Src (w.alloc (.cells #[] 5)) (some ⟨g0, 0, none⟩) i (m.xs.take i) from (src_take HX.out htl).later (fun k hk => Below.heap_alloc _ _ _ hk))
        go_wp2_with (at_builtin; refine wpList_append_src rfl (.tmp 32) (.tmp 38) rfl B w.heap.size 0 0 [] rfl OW.out (some ⟨g0, 0, none⟩) i c (m.xs.take i) rfl SX.out (by intro e; cases e) (by omega) (by simp; omega) ?_)
        intro g cap w2 hown hgrow hat
        have hk2 : Keeps (fun k => w.heap.size ≤ k) w w2 := ((Keeps.refl _ _).alloc _).grown hgrow (by intro k hk e; cases e; exact Nat.le_refl _)
        have hg1 : w.heap.size ≤ g := by rcases hat with e | e <;> omega
        have hrow : Row w2 g cap i (m.xs.take i) ∧ g < w2.heap.size ∧ (i ≤ cap ∧ cap ≤ maxLen) := by
          rcases hown.2 with ⟨e, _⟩ | ⟨g', cap', cur, e, _, hh, p1, p2, p3, p4⟩
          · cases e
          · cases e
            exact ⟨⟨cur, hh, by simpa using p3, by simpa using p4⟩, lt_of_block hh, by simpa using p1, p2⟩
        have hT2 : w2.heap[T]? = w.heap[T]? := hk2.block T hT (by omega)
        have d2 : w2.cell? ⟨T, 2, none⟩ = some (.int .i64 s) := by rw [← h2]; exact World.cell?_of_block (w := w) hT2
        have GA := Lib.hid (fun j x (hj : gs[j]? = some x) => show ∃ gb go_, a2 = some ⟨gb, go_, none⟩ ∧ w.cell? ⟨gb, go_ + j, none⟩ = some (.int .u8 x) from src_cell HS.out hj)
        have HR := Lib.hid hrow
        have HK := Lib.hid hk2
        have HG := Lib.hid hg1
        obtain ⟨kk, hkk⟩ : ∃ kk, min (i - s) gs.length = kk := ⟨_, rfl⟩
        have hkk1 : kk ≤ i - s := by omega
        have hkk2 : kk ≤ ng := by have := HS.out.1; omega
        have hkk3 : kk = i - s ∨ kk = ng := by have := HS.out.1; omega
        have HKK := Lib.hid hkk
        have HK3 := Lib.hid hkk3
        have HNG := Lib.hid HS.out.1
        have H2 := Lib.hid h2
        clear hown hgrow hat hk2 hrow h0 h2 hkk hkk3 hg1
        have HT2 := Lib.hid (hT2 : w2.heap[T]? = w.heap[T]?)
        clear hT2
        go_wp2_with fail
        go_loopw [8] (fun v wr => ∃ j : Nat, j ≤ kk ∧ v = .int .i64 ((j : Int) + 1) ∧ Backed w2 g cap i (m.xs.take i) gs gs.length j wr) (fun v _ => kk + 1 - (intOf v).toNat)
        case atStart => exact ⟨0, Nat.zero_le _, rfl, HR.out.1, Keeps.refl _ _⟩
        case round =>
          obtain ⟨j, hj, rfl, hbk⟩ := hrel
          have BK := Lib.hid hbk
          have hTr : wr.heap[T]? = w.heap[T]? := (hbk.2.block T (Nat.lt_of_lt_of_le hT HK.out.size) (by have := HG.out; omega)).trans HT2.out
          have d2 : wr.cell? ⟨T, 2, none⟩ = some (.int .i64 s) := by rw [← H2.out]; exact World.cell?_of_block (w := w) hTr
          have HTR := Lib.hid hTr
          clear hbk hTr
          by_cases hlt : j < kk
          · have t1 : decide ((j : Int) + 1 ≤ ng) = true := by simp; omega
            have t2 : decide ((j : Int) + 1 ≤ (i : Int) - s) = true := by simp; omega
            obtain ⟨x, hx⟩ : ∃ x, (m.xs.take i)[i - (j + 1)]? = some x := by
              have h1 := HLT.out
              exact ⟨_, List.getElem?_eq_getElem (by omega)⟩
            obtain ⟨y, hy⟩ : ∃ y, gs[gs.length - (j + 1)]? = some y := by
              have h1 := HNG.out
              exact ⟨_, List.getElem?_eq_getElem (by omega)⟩
            obtain ⟨gb, go_, rfl, hcell⟩ := GA.out _ _ hy
            have hgb := World.block_lt_of_cell? w _ hcell
            simp only at hgb
            have c1 : wr.cell? ⟨g, i - (j + 1), none⟩ = some (.int .u8 x) := BK.out.1.cell (by rw [mix_get, if_neg (by omega)]; exact hx)
            have c2 : wr.cell? ⟨gb, go_ + (ng - (j + 1)), none⟩ = some (.int .u8 y) := by
              rw [← hcell, HNG.out]
              have e1 := BK.out.2.block gb (Nat.lt_of_lt_of_le hgb HK.out.size) (by have := HG.out; omega)
              have e2 := HK.out.block gb hgb (by omega)
              exact World.cell?_of_block (w := w) (e1.trans e2)
            have f1 : wr.frozen? ⟨g, i - (j + 1), none⟩ = false := BK.out.1.free _
            have hX := Lib.hid hx
            have hY := Lib.hid hy
            clear hx hy hcell
            go_wp2
            go_region
            go_wp2
            go_roundw
            case rel => exact ⟨j + 1, hlt, by go_num, BK.out.step (by omega) (by have := HNG.out; omega) hX.out hY.out⟩
            case measure => simp [intOf]; omega
          · obtain rfl : j = kk := by omega
            have hb := HTR.out.trans HB.out
            obtain ⟨e0, e1, e2, e3, e4, e5⟩ := twin_cells hb
            have f0 := reel_free hb 0
            have f2 := reel_free hb 2
            have f4 := reel_free hb 4
            have f5 := reel_free hb 5
            have X := Lib.hid (twin_end (k := j) (keep := keep) H.out hB HK.out HG.out HR.out.2.1 HR.out.2.2 BK.out (by rw [HM.out, HKK.out]) HO.out HLT.out)
            clear hb e1 e2 e3
            rcases (show ng < j + 1 ∨ (j + 1 ≤ ng ∧ i - s < j + 1) by have := HK3.out; omega) with ft | ⟨ft1, ft2⟩
            · have t1 : decide ((j : Int) + 1 ≤ ng) = false := by simp; omega
              go_wp2
              go_end0
              exact X.out
            · have t1 : decide ((j : Int) + 1 ≤ ng) = true := by simp; omega
              have t2 : decide ((j : Int) + 1 ≤ (i : Int) - s) = false := by simp; omega
              go_wp2
              go_end0
              exact X.out
set_option maxHeartbeats 800000 in
theorem twinCrash_none (w : World) (B T : Nat) (m : M) (h : Twin w B T none m) (hB : B ≤ w.heap.size) (keep : Int) (a2 : Option Addr) (ng d : Nat) (gs : List Int) (hs : Src w a2 ng gs) (hf : Fits a2 ng d) :
    Calls Try.prog 23 #[.pointer (some ⟨T, 0, none⟩), .int .i64 keep, .slice a2 ng d] w (TwinCrashed w B T (m.crash keep gs)) := by
  have ok := h.ok
  have hT := h.lt
  have hdm := hf.2.1
  have hnd := hf.1
  unfold maxLen at hdm
  obtain ⟨c, l, hb, hl, hxs, hfx⟩ := h.holds
  have hx : m.xs = [] := by
    rcases hxs.2.2 with ⟨_, e⟩ | ⟨ad, e, _⟩
    · exact List.eq_nil_of_length_eq_zero e
    · cases e
  have hsafe : m.safe = 0 := by have := ok.safe0; have := ok.safe1; rw [hx] at this; simp at this; omega
  obtain rfl : c = 0 := hfx.2.2 rfl
  have HM := Lib.hid (show m.crash keep gs = { cap := m.cap, xs := mix (m.xs.take 0) gs (0 - 0) (gs.length - 0) 0, safe := ((0 : Nat) : Int), left := -1, down := false } by
    have en : (min (max keep 0) ((m.xs.length : Int) - m.safe)).toNat = 0 := by rw [hx, hsafe]; simp only [List.length_nil]; omega
    have e0 : m.safe.toNat = 0 := by rw [hsafe]; rfl
    simp only [M.crash, en, e0]
    simp [mix])
  have HO := Lib.hid (crash_ok ok keep gs hs.2.1)
  have HLT := Lib.hid (show (m.xs.take 0).length = 0 by simp)
  obtain ⟨h0, h1, h2, h3, h4, h5⟩ := twin_cells hb
  rw [hsafe] at h2
  rw [hx] at h0
  simp only [headOf, Option.map_none, List.length_nil] at h0
  have H := Lib.hid h
  have HB := Lib.hid hb
  have OW := Lib.hid (World.ownsRow_made (base := B) (e := 5) (size := 1) w #[] 0 hB (Nat.zero_le _) (by simp))
  have SX := Lib.hid (show Src (w.alloc (.cells #[] 5)) none 0 [] from src_zero _ _)
  clear ok hsafe h hb hl hxs hfx hs hf h1 h3 h4 h5 hx
  go_enter Try.func23, Try.ntmps23
  go_wp2_with fail
  go_loop [6] (fun v => v = .int .i64 0) (fun _ => 0)
  case atStart => rfl
  case round =>
    obtain rfl := hrel
    go_wp2_with (at_builtin; refine wpList_append_src rfl (.tmp 32) (.tmp 38) rfl B w.heap.size 0 0 [] rfl OW.out none 0 0 [] rfl SX.out (fun _ => rfl) (by omega) (by simp; omega) ?_)
    intro g cap w2 hown hgrow hat
    have hk2 : Keeps (fun k => w.heap.size ≤ k) w w2 := ((Keeps.refl _ _).alloc _).grown hgrow (by intro k hk e; cases e; exact Nat.le_refl _)
    have hg1 : w.heap.size ≤ g := by rcases hat with e | e <;> omega
    have hrow : Row w2 g cap 0 (m.xs.take 0) ∧ g < w2.heap.size ∧ (0 ≤ cap ∧ cap ≤ maxLen) := by
      rcases hown.2 with ⟨e, _⟩ | ⟨g', cap', cur, e, _, hh, p1, p2, p3, p4⟩
      · cases e
      · cases e
        exact ⟨⟨cur, hh, by simpa using p3, by simp⟩, lt_of_block hh, Nat.zero_le _, p2⟩
    have hT2 : w2.heap[T]? = w.heap[T]? := hk2.block T hT (by omega)
    have d2 : w2.cell? ⟨T, 2, none⟩ = some (.int .i64 0) := by rw [← h2]; exact World.cell?_of_block (w := w) hT2
    have hb := hT2.trans HB.out
    obtain ⟨e0, e1, e2, e3, e4, e5⟩ := twin_cells hb
    have f0 := reel_free hb 0
    have f2 := reel_free hb 2
    have f4 := reel_free hb 4
    have f5 := reel_free hb 5
    have X := Lib.hid (twin_end (t := 0) (k := 0) (keep := keep) H.out hB hk2 hg1 hrow.2.1 hrow.2.2 (⟨hrow.1, Keeps.refl _ _⟩ : Backed w2 g cap 0 (m.xs.take 0) gs gs.length 0 w2) HM.out HO.out HLT.out)
    clear hown hgrow hat hk2 hrow hT2 h0 h2 hb e1 e2 e3 hg1
    go_wp2_with fail
    go_loopw [8] (fun v wr => v = .int .i64 1 ∧ wr = w2) (fun _ _ => 0)
    case atStart => exact ⟨rfl, rfl⟩
    case round =>
      obtain ⟨rfl, rfl⟩ := hrel
      by_cases ft : ng < 1
      · have t1 : decide ((1 : Int) ≤ ng) = false := by simp; omega
        go_wp2
        go_end0
        exact X.out
      · have t1 : decide ((1 : Int) ≤ ng) = true := by simp; omega
        go_wp2
        go_end0
        exact X.out

/-- The contract of the document's reel's crash. -/
theorem twinCrash_any (w : World) (B T : Nat) (E : Option Nat) (m : M) (h : Twin w B T E m) (hB : B ≤ w.heap.size) (keep : Int) (a2 : Option Addr) (ng d : Nat) (gs : List Int) (hs : Src w a2 ng gs) (hf : Fits a2 ng d) (hk0 : -9223372036854775808 ≤ keep) (hk1 : keep ≤ 9223372036854775807) :
    Calls Try.prog 23 #[.pointer (some ⟨T, 0, none⟩), .int .i64 keep, .slice a2 ng d] w (TwinCrashed w B T (m.crash keep gs)) := by
  cases E with
  | none => exact twinCrash_none w B T m h hB keep a2 ng d gs hs hf
  | some g0 => exact twinCrash_some w B T g0 m h hB keep a2 ng d gs hs hf hk0 hk1
end Go.Proofs.Ytccfjpjhkaicgaa
