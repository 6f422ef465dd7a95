/- The walk of LassoBoxes. -/
import Derived.Test.YtboocllckolmgaaQ
namespace Go.Proofs.Ytboocllckolmgaa
open Go.RowKit
set_option linter.unusedVariables false

set_option maxRecDepth 100000 in
set_option maxHeartbeats 3200000 in
theorem boxes_no (w : World) (a : Option Addr) (n c : Nat) (ps : List Pt) (x y : Int) (h : Pts w a n ps) (hn : ¬ 1000 < n) (hq0 : Fits ⟨x, y⟩) (hs : shape ps = false) : Calls Try.prog 7 #[.slice a n c, .int .i64 x, .int .i64 y] w (Yes w) := by
  have CA := Lib.hid (anchor_any w)
  have HP := Lib.hid h
  have HS := Lib.hid hs
  have u : decide ((1000 : Int) < (n : Int)) = false := by simp; omega
  clear h hq0 hs
  go_enter Try.func7, Try.ntmps7
  go_wp2_with fail
  refine CA.out.mono ?_
  rintro e w1 ⟨rfl, hb⟩
  have H1 := Lib.hid (And.intro (HP.out.below hb) hb)
  clear hb CA HP
  have CB := Lib.hid (box_no w1 a n c ps H1.out.1 (by omega) HS.out)
  go_wp2_with fail
  refine CB.out.mono ?_
  rintro e w2 ⟨rfl, hb⟩
  have H2 := Lib.hid (And.intro (H1.out.1.below hb) (below_more H1.out.2 hb (Nat.le_refl _)))
  clear hb CB H1
  have CP := Lib.hid (plain_any w2 a n c ps H2.out.1 (by omega))
  have hl := H2.out.1.1
  go_wp2_with fail
  refine CP.out.mono ?_
  rintro e w3 ⟨aa, c3, rfl, hp, _, _, _, hb⟩
  rw [hl] at hp ⊢
  have H3 := Lib.hid (And.intro hp (below_more H2.out.2 hb (Nat.le_refl _)))
  clear hb CP H2 hp hl
  have CS := Lib.hid (docShape_any w3 aa n c3 ps H3.out.1 (by omega))
  rw [HS.out] at CS
  go_wp2_with fail
  refine CS.out.mono ?_
  rintro e w4 ⟨rfl, hb⟩
  have X := Lib.hid (below_more H3.out.2 hb (Nat.le_refl _))
  clear hb CS H3
  go_wp2_with fail
  go_ret
  exact ⟨rfl, X.out⟩

/-- What the law's loop has found so far. -/
structure Found (ps : List Pt) (lx ly mx my : Int) (l r t b : Bool) : Prop where
  left : ∀ p ∈ ps, p.X = lx → l = true
  right : ∀ p ∈ ps, p.X = mx → r = true
  top : ∀ p ∈ ps, p.Y = ly → t = true
  low : ∀ p ∈ ps, p.Y = my → b = true
theorem Found.nil (lx ly mx my : Int) : Found [] lx ly mx my false false false false :=
  ⟨fun _ h => (by cases h), fun _ h => (by cases h), fun _ h => (by cases h), fun _ h => (by cases h)⟩
theorem Found.more {ps : List Pt} {lx ly mx my : Int} {l r t b l2 r2 t2 b2 : Bool} (h : Found ps lx ly mx my l r t b) (p : Pt) (h1 : l2 = (l || decide (p.X = lx))) (h2 : r2 = (r || decide (p.X = mx))) (h3 : t2 = (t || decide (p.Y = ly))) (h4 : b2 = (b || decide (p.Y = my))) : Found (ps ++ [p]) lx ly mx my l2 r2 t2 b2 := by
  refine ⟨fun q hq e => ?_, fun q hq e => ?_, fun q hq e => ?_, fun q hq e => ?_⟩ <;> rw [List.mem_append, List.mem_singleton] at hq
  · rcases hq with hq | rfl
    · rw [h1, h.left q hq e, Bool.true_or]
    · rw [h1, decide_eq_true e, Bool.or_true]
  · rcases hq with hq | rfl
    · rw [h2, h.right q hq e, Bool.true_or]
    · rw [h2, decide_eq_true e, Bool.or_true]
  · rcases hq with hq | rfl
    · rw [h3, h.top q hq e, Bool.true_or]
    · rw [h3, decide_eq_true e, Bool.or_true]
  · rcases hq with hq | rfl
    · rw [h4, h.low q hq e, Bool.true_or]
    · rw [h4, decide_eq_true e, Bool.or_true]
theorem Found.all {ps : List Pt} {lx ly mx my : Int} {l r t b : Bool} (h : Found ps lx ly mx my l r t b) (hb : Bnd ps lx ly mx my) : l = true ∧ r = true ∧ t = true ∧ b = true := by
  obtain ⟨p, hp, e1⟩ := hb.left
  obtain ⟨q, hq, e2⟩ := hb.top
  obtain ⟨r, hr, e3⟩ := hb.right
  obtain ⟨s, hs, e4⟩ := hb.low
  exact ⟨h.left p hp e1, h.right r hr e3, h.top q hq e2, h.low s hs e4⟩
/-- A flag and a test, as the walk meets them. -/
theorem flag_cases (l : Bool) (x y : Int) : (l = true ∧ Hid (true = (l || decide (x = y)))) ∨ (l = false ∧ ((x == y) = true ∧ decide (x = y) = true) ∧ Hid (true = (l || decide (x = y)))) ∨ (l = false ∧ ((x == y) = false ∧ decide (x = y) = false) ∧ Hid (false = (l || decide (x = y)))) := by
  cases l
  · by_cases h : x = y
    · exact .inr (.inl ⟨rfl, ⟨by simpa using h, by simpa using h⟩, Lib.hid (by simpa using h)⟩)
    · exact .inr (.inr ⟨rfl, ⟨by simpa using h, by simpa using h⟩, Lib.hid (by simpa using h)⟩)
  · exact .inl ⟨rfl, Lib.hid (by simp)⟩

set_option maxRecDepth 100000 in
set_option maxHeartbeats 12800000 in
theorem boxes_yes (w : World) (a : Option Addr) (n c : Nat) (ps : List Pt) (x y : Int) (h : Pts w a n ps) (hn : ¬ 1000 < n) (hq0 : Fits ⟨x, y⟩) (hs : shape ps = true) : Calls Try.prog 7 #[.slice a n c, .int .i64 x, .int .i64 y] w (Yes w) := by
  have CA := Lib.hid (anchor_any w)
  have HP := Lib.hid h
  have HS := Lib.hid hs
  have HQ := Lib.hid hq0
  have u : decide ((1000 : Int) < (n : Int)) = false := by simp; omega
  clear h hq0 hs
  go_enter Try.func7, Try.ntmps7
  go_wp2_with fail
  refine CA.out.mono ?_
  rintro e w1 ⟨rfl, hb⟩
  have H1 := Lib.hid (And.intro (HP.out.below hb) hb)
  clear hb CA HP
  have CB := Lib.hid (box_yes w1 a n c ps H1.out.1 HS.out)
  go_wp2_with fail
  refine CB.out.mono ?_
  rintro e w2 ⟨lx, ly, mx, my, hbn, rfl, hb⟩
  have H2 := Lib.hid (And.intro (H1.out.1.below hb) (And.intro (below_more H1.out.2 hb (Nat.le_refl _)) hbn))
  obtain ⟨⟨lx1, lx2⟩, ⟨ly1, ly2⟩, ⟨mx1, mx2⟩, ⟨my1, my2⟩⟩ := hbn.near (shape_len HS.out).2.2
  obtain ⟨dx, hdx⟩ : ∃ z, mx - lx = z := ⟨_, rfl⟩
  obtain ⟨dy, hdy⟩ : ∃ z, my - ly = z := ⟨_, rfl⟩
  rw [hdx, hdy]
  have e1 : lx + dx = mx := by omega
  have e2 : ly + dy = my := by omega
  have dx1 : -4194304 ≤ dx ∧ dx ≤ 4194304 := by omega
  have dy1 : -4194304 ≤ dy ∧ dy ≤ 4194304 := by omega
  clear hb CB H1 hbn hdx hdy
  have CP := Lib.hid (plain_any w2 a n c ps H2.out.1 (by omega))
  have hl := H2.out.1.1
  go_wp2_with fail
  refine CP.out.mono ?_
  rintro e w3 ⟨aa, c3, rfl, hp, _, _, _, hb⟩
  rw [hl] at hp ⊢
  have H3 := Lib.hid (And.intro hp (And.intro (below_more H2.out.2.1 hb (Nat.le_refl _)) (H2.out.1.below hb)))
  have BN := Lib.hid H2.out.2.2
  clear hb CP H2 hp hl
  have CS := Lib.hid (docShape_any w3 aa n c3 ps H3.out.1 (by omega))
  rw [HS.out] at CS
  go_wp2_with fail
  refine CS.out.mono ?_
  rintro e w4 ⟨rfl, hb⟩
  have H4 := Lib.hid (And.intro (H3.out.2.2.below hb) (below_more H3.out.2.1 hb (Nat.le_refl _)))
  clear hb CS H3
  go_wp2_with fail
  go_loopw [13, 14, 15, 16, 61] (fun vl vr vt vb cnt wr => ∃ (i : Nat) (l r t b : Bool), i ≤ n ∧ cnt = .int .i64 i ∧ vl = .bool l ∧ vr = .bool r ∧ vt = .bool t ∧ vb = .bool b ∧ Found (ps.take i) lx ly mx my l r t b ∧ Below w4.heap.size w4 wr) (fun _ _ _ _ cnt _ => n - (intOf cnt).toNat)
  case atStart => exact ⟨0, false, false, false, false, Nat.zero_le _, rfl, rfl, rfl, rfl, rfl, Found.nil lx ly mx my, Below.refl _ _⟩
  case round =>
    obtain ⟨i, l, r, t, b, hi, rfl, rfl, rfl, rfl, rfl, hf, hb⟩ := hrel
    by_cases hlt : i < n
    · obtain ⟨bl, off, p, rfl, hp, _, c0, c1⟩ := (H4.out.1.below hb).at hlt
      have kb := BN.out.all p (List.mem_of_getElem? hp)
      have v1 : decide (p.X < lx) = false := by simp; omega
      have v2 : decide (mx < p.X) = false := by simp; omega
      have v3 : decide (p.Y < ly) = false := by simp; omega
      have v4 : decide (my < p.Y) = false := by simp; omega
      have F := Lib.hid (show ∀ l2 r2 t2 b2, l2 = (l || decide (p.X = lx)) → r2 = (r || decide (p.X = mx)) → t2 = (t || decide (p.Y = ly)) → b2 = (b || decide (p.Y = my)) → Found (ps.take (i + 1)) lx ly mx my l2 r2 t2 b2 from
        fun l2 r2 t2 b2 h1 h2 h3 h4 => by rw [take_more hp]; exact hf.more p h1 h2 h3 h4)
      have HB := Lib.hid (hb.alloc hb.size (.cells #[.int .i64 p.X, .int .i64 p.Y] 37))
      clear hf hb hp kb
      go_wp2_with fail
      have op := one_pt wr p 37
      generalize wr.alloc (.cells #[.int .i64 p.X, .int .i64 p.Y] 37) = w5 at *
      obtain ⟨z0, z1⟩ := op
      generalize wr.heap.size = PB at *
      clear c0 c1 v1 v2 v3 v4
      generalize p.X = pX at *
      generalize p.Y = pY at *
      rcases flag_cases l pX lx with ⟨rfl, F1⟩ | ⟨rfl, ⟨f1, g1⟩, F1⟩ | ⟨rfl, ⟨f1, g1⟩, F1⟩ <;> rcases flag_cases r pX mx with ⟨rfl, F2⟩ | ⟨rfl, ⟨f2, g2⟩, F2⟩ | ⟨rfl, ⟨f2, g2⟩, F2⟩ <;> rcases flag_cases t pY ly with ⟨rfl, F3⟩ | ⟨rfl, ⟨f3, g3⟩, F3⟩ | ⟨rfl, ⟨f3, g3⟩, F3⟩ <;> rcases flag_cases b pY my with ⟨rfl, F4⟩ | ⟨rfl, ⟨f4, g4⟩, F4⟩ | ⟨rfl, ⟨f4, g4⟩, F4⟩
      case' inl.inl.inl.inl => skip
      all_goals
        go_quiet (fail)
        go_wp2_with fail
        go_roundw
        case rel => exact ⟨i + 1, _, _, _, _, hlt, by go_num, rfl, rfl, rfl, rfl, F.out _ _ _ _ F1.out F2.out F3.out F4.out, below_drewN HB.out _⟩
        case measure => simp [intOf]; omega
    · obtain rfl : i = n := by omega
      rw [List.take_of_length_le (by rw [H4.out.1.1]; exact Nat.le_refl _)] at hf
      obtain ⟨rfl, rfl, rfl, rfl⟩ := hf.all BN.out
      have HW := Lib.hid (And.intro (H4.out.1.below hb) (below_more H4.out.2 hb (Nat.le_refl _)))
      clear hf hb
      cases hq : near ⟨x, y⟩ with
      | false =>
        have CW := Lib.hid (within_no wr a i c ps ⟨x, y⟩ HW.out.1 (by omega) HQ.out (by rw [hq, Bool.and_false]))
        clear hq
        go_wp2_with fail
        refine CW.out.mono ?_
        rintro e w6 ⟨rfl, hb⟩
        have X := Lib.hid (below_more HW.out.2 hb (Nat.le_refl _))
        clear hb CW HW
        go_wp2_with fail
        go_ret
        exact ⟨rfl, X.out⟩
      | true =>
        have CW := Lib.hid (within_yes wr a i c ps ⟨x, y⟩ HW.out.1 hq HS.out)
        clear hq
        cases hin : insideB ps ⟨x, y⟩ with
        | false =>
          rw [hin] at CW
          clear hin
          go_wp2_with fail
          refine CW.out.mono ?_
          rintro e w6 ⟨rfl, hb⟩
          have X := Lib.hid (below_more HW.out.2 hb (Nat.le_refl _))
          clear hb CW HW
          go_wp2_with fail
          go_ret
          exact ⟨rfl, X.out⟩
        | true =>
          rw [hin] at CW
          obtain ⟨⟨k1, k2⟩, k3, k4⟩ := inside_box BN.out hin
          simp only at k1 k2 k3 k4
          have v1 : decide (lx ≤ x) = true := by simpa using k1
          have v2 : decide (x < mx) = true := by simpa using k2
          have v3 : decide (ly ≤ y) = true := by simpa using k3
          have v4 : decide (y < my) = true := by simpa using k4
          clear hin
          go_wp2_with fail
          refine CW.out.mono ?_
          rintro e w6 ⟨rfl, hb⟩
          have X := Lib.hid (below_more HW.out.2 hb (Nat.le_refl _))
          clear hb CW HW
          go_wp2_with fail
          go_ret
          exact ⟨rfl, X.out⟩
set_option maxRecDepth 100000 in
set_option maxHeartbeats 1600000 in
theorem boxes_law (w : World) (a : Option Addr) (n c : Nat) (ps : List Pt) (x y : Int) (hp : Pts w a n ps ∧ n ≤ c) (hx : -9223372036854775808 ≤ x ∧ x ≤ 9223372036854775807) (hy : -9223372036854775808 ≤ y ∧ y ≤ 9223372036854775807) :
    Calls Try.prog 7 #[.slice a n c, .int .i64 x, .int .i64 y] w (Yes w) := by
  have h := hp.1
  clear hp
  by_cases hn : 1000 < n
  · have CA := Lib.hid (anchor_any w)
    clear h hx hy
    have u : decide ((1000 : Int) < (n : Int)) = true := by simp; omega
    go_enter Try.func7, Try.ntmps7
    go_wp2_with fail
    refine CA.out.mono ?_
    rintro e w1 ⟨rfl, hb⟩
    have X := Lib.hid hb
    clear hb
    go_wp2_with fail
    go_ret
    exact ⟨rfl, X.out⟩
  · cases hs : shape ps with
    | false => exact boxes_no w a n c ps x y h hn ⟨hx, hy⟩ hs
    | true => exact boxes_yes w a n c ps x y h hn ⟨hx, hy⟩ hs
end Go.Proofs.Ytboocllckolmgaa
