/- The walk of LzSame. -/
import Derived.Test.YtaandnikamnbbaaO
namespace Go.Proofs.Ytaandnikamnbbaa
open Go.RowKit
set_option linter.unusedVariables false

/-- Bytes, whatever they are, in a block. -/
def Bag (w : World) (g n : Nat) : Prop := ∃ cur : Array Value, w.heap[g]? = some (.cells cur 5 (0, 0)) ∧ n ≤ cur.size ∧ ∀ j, j < n → ∃ x : Int, cur[j]? = some (.int .u8 x)
theorem Bag.cell {w : World} {g n j : Nat} (h : Bag w g n) (hj : j < n) : ∃ x : Int, w.cell? ⟨g, j, none⟩ = some (.int .u8 x) ∧ w.frozen? ⟨g, j, none⟩ = false := by
  obtain ⟨cur, h1, h2, h3⟩ := h
  obtain ⟨x, hx⟩ := h3 j hj
  exact ⟨x, by simp [World.cell?, h1, hx], by simp [World.frozen?, h1]⟩
theorem Bag.set {w : World} {g n : Nat} (h : Bag w g n) (i : Nat) (x : Int) : Bag (w.setCell ⟨g, i, none⟩ (.int .u8 x)) g n := by
  obtain ⟨cur, h1, h2, h3⟩ := h
  refine ⟨_, block_set h1 _, by simpa using h2, fun j hj => ?_⟩
  obtain ⟨y, hy⟩ := h3 j hj
  by_cases e : i = j
  · subst e
    exact ⟨x, by rw [Array.getElem?_setIfInBounds_self_of_lt (by omega)]⟩
  · exact ⟨y, by rw [Array.getElem?_setIfInBounds_ne e]; exact hy⟩
theorem bag_of_own {w : World} {B n c : Nat} {aa : Option Addr} {ys : List Nat} (h : w.ownsRow B 5 1 (.slice aa n c) n (bys ys)) (h0 : 0 < n) : ∃ g, aa = some ⟨g, 0, none⟩ ∧ B ≤ g ∧ g < w.heap.size ∧ Bag w g n := by
  have hl0 := h.1
  rw [bys_length] at hl0
  obtain ⟨hl, h2⟩ := h
  rcases h2 with ⟨_, e2⟩ | ⟨g, cap, cur, e, hB, hh, p1, p2, p3, p4⟩
  · omega
  · cases e
    refine ⟨g, rfl, hB, lt_of_block hh, cur, hh, by omega, fun j hj => ?_⟩
    have hj2 : (bys ys)[j]? = (cur.toList.take (n * 1))[j]? := by rw [p4]
    have hjl : j < ys.length := by omega
    unfold bys at hj2
    rw [List.getElem?_take_of_lt (by omega), List.getElem?_map, List.getElem?_eq_getElem hjl] at hj2
    exact ⟨_, by simpa using hj2.symm⟩
theorem Bag.later {w w' : World} {g n : Nat} (h : Bag w g n) (hb : w'.heap[g]? = w.heap[g]?) : Bag w' g n := by
  obtain ⟨cur, h1, h2⟩ := h
  exact ⟨cur, hb.trans h1, h2⟩
/-- Tokens that lie elsewhere. -/
theorem Toks.setOther {w : World} {a : Option Addr} {n g i : Nat} {ts : List Tok} (h : Toks w a n ts) (hne : ∀ x, a = some x → x.block ≠ g) (v : Value) : Toks (w.setCell ⟨g, i, none⟩ v) a n ts := by
  obtain ⟨h1, h2, h3⟩ := h
  refine ⟨h1, h2, fun hp => ?_⟩
  obtain ⟨b, off, e, hc⟩ := h3 hp
  have hb : b ≠ g := hne _ e
  exact ⟨b, off, e, fun i t ht => (hc i t ht).up (fun _ => Below.heap_setCell _ _ _ _ (by simpa using hb))⟩

set_option maxRecDepth 100000 in
set_option maxHeartbeats 3200000 in
theorem same_law (w : World) (a : Option Addr) (n c : Nat) (ys : List Nat) (effort : Int) (h : Arg w a n c ys) (he : -9223372036854775808 ≤ effort ∧ effort ≤ 9223372036854775807) :
    Calls Try.prog 8 #[.slice a n c, .int .i64 effort] w (Yes w) := by
  have CA := Lib.hid (anchor_any w)
  by_cases hbig : 2000 < n
  · have u : decide ((2000 : Int) < (n : Int)) = true := by simp; omega
    clear h
    go_enter Try.func8, Try.ntmps8
    go_wp2_with fail
    refine CA.out.mono ?_
    rintro e w1 ⟨rfl, hb⟩
    have X := Lib.hid hb
    clear hb
    go_wp2_with fail
    go_ret
    exact ⟨rfl, X.out⟩
  · have u : decide ((2000 : Int) < (n : Int)) = false := by simp; omega
    have HA := Lib.hid h
    have hyl : ys.length = n := h.1.1
    have HF := Lib.hid (found_all h.1.2.1 effort)
    have HYL := Lib.hid hyl
    clear h hyl
    go_enter Try.func8, Try.ntmps8
    go_wp2_with fail
    refine CA.out.mono ?_
    rintro e w1 ⟨rfl, hb⟩
    have HW := Lib.hid hb
    have A1 := Lib.hid (HA.out.below hb)
    have hb2 : Below w1.heap.size w1 (w1.alloc (.cells #[] 5)) := (Below.refl _ _).alloc (Nat.le_refl _) _
    have A2 := Lib.hid ((HA.out.below hb).below hb2)
    have HB2 := Lib.hid hb2
    clear hb CA hb2
    go_wp2_with (at_builtin; go_must (refine wpList_append_text rfl (.tmp 16) (.tmp 17) rfl w1.heap.size 0 (.slice (some ⟨w1.heap.size, 0, none⟩) 0 0) [] rfl ?e1 a n c ys rfl ?e2 A2.out.2.2 (by omega) (by omega) ?e3 ?e4))
    case e1 => exact World.ownsRow_lit w1 #[] 0 (Nat.le_refl _) (by unfold maxLen; omega) rfl
    case e2 => exact A2.out.1
    case e3 => simp
    case e4 =>
      intro aa cap w3 hown hg hat
      try simp only [Nat.zero_add] at hown
      try simp only [List.nil_append] at hown
      have hb3 : Below w1.heap.size w1 w3 := grown_below (Nat.le_refl _) HB2.out hg (fun k e => by cases e; exact Nat.le_refl _)
      have hga : Arg w3 aa n cap ys := bytes_of_own hown A2.out.1.2.1
      have C3 := Lib.hid (find_any w3 aa n cap ys effort hga (by omega) he)
      have A3 := Lib.hid (A1.out.below hb3)
      have HB3 := Lib.hid hb3
      have HBAG := Lib.hid (fun hp : 0 < n => bag_of_own hown hp)
      clear hown hg hat hb3 hga A2 HB2
      obtain ⟨ts, hts⟩ : ∃ ts, ts = found ys effort := ⟨_, rfl⟩
      rw [← hts] at HF C3
      have HTS := Lib.hid hts
      clear hts
      have htl : ts.length ≤ 2000 := by have := HF.out.few; rw [HYL.out] at this; omega
      go_wp2_with fail
      refine C3.out.mono ?_
      rintro e w4 ⟨al, cl, rfl, htk, hfr, hb4⟩
      have H4 := Lib.hid (below_more HB3.out hb4 (Nat.le_refl _))
      have T4 := Lib.hid htk
      have HFR := Lib.hid hfr
      have HBAG4 := Lib.hid (show 0 < n → ∃ g, aa = some ⟨g, 0, none⟩ ∧ w1.heap.size ≤ g ∧ g < w3.heap.size ∧ Bag w4 g n from fun hp => by
        obtain ⟨g, e1, e2, e3, e4⟩ := HBAG.out hp
        exact ⟨g, e1, e2, e3, e4.later (hb4.block g e3)⟩)
      clear htk hb4 hfr C3 HBAG
      go_wp2_with fail
      go_loopw [24] (fun cnt wl => ∃ i : Nat, i ≤ n ∧ cnt = .int .i64 i ∧ (0 < n → ∃ g, aa = some ⟨g, 0, none⟩ ∧ w1.heap.size ≤ g ∧ g < w3.heap.size ∧ Bag wl g n) ∧ Toks wl al ts.length ts ∧ Below w1.heap.size w1 wl) (fun cnt _ => n - (intOf cnt).toNat)
      case atStart => exact ⟨0, Nat.zero_le _, rfl, HBAG4.out, T4.out, H4.out⟩
      case round =>
        clear HBAG4 T4 H4
        obtain ⟨i, hi, rfl, hbag, htk, hb⟩ := hrel
        by_cases hlt : i < n
        · obtain ⟨g, rfl, hg1, hg2, hbg⟩ := hbag (by omega)
          obtain ⟨x, hx, hf⟩ := hbg.cell hlt
          have X := Lib.hid (fun z : Int => show (0 < n → ∃ g', some (⟨g, 0, none⟩ : Addr) = some ⟨g', 0, none⟩ ∧ w1.heap.size ≤ g' ∧ g' < w3.heap.size ∧ Bag (wr.setCell ⟨g, i, none⟩ (.int .u8 z)) g' n) ∧ Toks (wr.setCell ⟨g, i, none⟩ (.int .u8 z)) al ts.length ts ∧ Below w1.heap.size w1 (wr.setCell ⟨g, i, none⟩ (.int .u8 z)) from
            ⟨fun _ => ⟨g, rfl, hg1, hg2, hbg.set i z⟩, htk.setOther (fun y hy e => by have := HFR.out y hy; omega) _, below_set hb hg1 _⟩)
          clear hbag htk hb hbg
          go_wp2_with fail
          go_roundw
          case rel => exact ⟨i + 1, hlt, by go_num, (X.out _).1, (X.out _).2.1, (X.out _).2.2⟩
          case measure => simp [intOf]; omega
        · obtain rfl : i = n := by omega
          have C5 := find_any wr a i c ys effort (A1.out.below hb) (by omega) he
          rw [← HTS.out] at C5
          have C5 := Lib.hid C5
          have T5 := Lib.hid htk
          have H5 := Lib.hid (below_more HW.out hb (Nat.le_refl _))
          clear hbag htk hb
          go_wp2_with fail
          refine C5.out.mono ?_
          rintro e w6 ⟨am, cm, rfl, htm, _, hb6⟩
          have TL := Lib.hid (T5.out.below hb6)
          have TM := Lib.hid htm
          have H6 := Lib.hid (below_more H5.out hb6 (Nat.le_refl _))
          clear htm hb6 C5 T5 H5
          obtain ⟨wo, rfl⟩ : ∃ wo : World, wo = w6 := ⟨_, rfl⟩
          go_wp2_with fail
          go_loopw [44] (fun cnt wl => ∃ j : Nat, j ≤ ts.length ∧ cnt = .int .i64 j ∧ Below wo.heap.size wo wl) (fun cnt _ => ts.length - (intOf cnt).toNat)
          case atStart => exact ⟨0, Nat.zero_le _, rfl, Below.refl _ _⟩
          case round =>
            obtain ⟨j, hj, rfl, hb⟩ := hrel
            by_cases hlt : j < ts.length
            · obtain ⟨b1, o1, t, rfl, ht1, hfit, t0, t1, t2⟩ := (TL.out.below hb).at hlt
              obtain ⟨b2, o2, t', rfl, ht2, _, s0, s1, s2⟩ := (TM.out.below hb).at hlt
              rw [ht1] at ht2
              cases ht2
              have HB5 := Lib.hid (hb.alloc hb.size (.cells #[.int .i64 t.L, .int .i64 t.D, .int .u8 (t.X : Nat)] 27))
              have hl2 : b2 < wr.heap.size := World.block_lt_of_cell? wr _ s0
              clear ht1 hb hfit
              go_wp2_with fail
              go_quiet (fail)
              go_wp2_with fail
              go_roundw
              case rel => exact ⟨j + 1, hlt, by go_num, below_drewN HB5.out _⟩
              case measure => simp [intOf]; omega
            · obtain rfl : j = ts.length := by omega
              have X := Lib.hid (below_more H6.out hb (Nat.le_refl _))
              clear hb
              go_wp2_with fail
              go_ret
              exact ⟨rfl, X.out⟩
end Go.Proofs.Ytaandnikamnbbaa
