/- The walk of LassoTurns, of a shape. -/
import Derived.Test.YtboocllckolmgaaL3
import Derived.Deep.CutRange
import Derived.Test.YtboocllckolmgaaW
namespace Go.Proofs.Ytboocllckolmgaa
open Go.RowKit
set_option linter.unusedVariables false

/-- What Turn told, either way. -/
def Either (b : Bool) (n : Nat) (ts : List Pt) (tv : Value) (ec : Int) (w' : World) : Prop :=
  (b = false ∧ tv = .slice none 0 0 ∧ ec = 31) ∨ (b = true ∧ ∃ g, tv = .slice (some ⟨g, 0, none⟩) n n ∧ ec = 0 ∧ Pts w' (some ⟨g, 0, none⟩) n ts)
theorem turn_nums {ps : List Pt} {q r : Pt} (hs : shape ps = true) (ST : shape (turned ps q r) = true) (hq : near q = true) :
    ∃ A Bz m1 m2, A = areaZ ps ∧ Bz = areaZ (turned ps q r) ∧ (-1099511627776 ≤ m1 ∧ m1 ≤ 1099511627776) ∧ (-1099511627776 ≤ m2 ∧ m2 ≤ 1099511627776) ∧ wrap64 (q.X * q.X) = m1 ∧ wrap64 (q.Y * q.Y) = m2 ∧ wrap64 (A * (m1 + m2)) = Bz := by
  have hB := areaZ_small ST
  have e49 : (2 : Nat) ^ 49 = 562949953421312 := by decide
  have e40 : (2 : Nat) ^ 40 = 1099511627776 := by decide
  have nq := near_iff.1 hq
  have k1 := mul_coord (a := q.X) (b := q.X) (by omega) (by omega)
  have k2 := mul_coord (a := q.Y) (b := q.Y) (by omega) (by omega)
  rw [e40] at k1 k2
  rw [e49] at hB
  have e := area_turned ps q r
  have wm1 : -1099511627776 ≤ q.X * q.X ∧ q.X * q.X ≤ 1099511627776 := by clear e; omega
  have wm2 : -1099511627776 ≤ q.Y * q.Y ∧ q.Y * q.Y ≤ 1099511627776 := by clear e; omega
  refine ⟨_, _, _, _, rfl, rfl, wm1, wm2, w64 _ (by clear e; omega) (by clear e; omega), w64 _ (by clear e; omega) (by clear e; omega), ?_⟩
  rw [← e]
  exact w64 _ (by clear e; omega) (by clear e; omega)
theorem Either.below {b : Bool} {n : Nat} {ts : List Pt} {tv : Value} {ec : Int} {w w' : World} (h : Either b n ts tv ec w) (hb : Below w.heap.size w w') : Either b n ts tv ec w' := by
  rcases h with h | ⟨h1, g, h2, h3, h4⟩
  · exact .inl h
  · exact .inr ⟨h1, g, h2, h3, h4.below hb⟩
theorem either_of {b : Bool} {w : World} {ts : List Pt} {n : Nat} {e : Ending} {w' : World} (hl : ts.length = n) (h : TurnSays b w ts e w') : ∃ tv ec, e = .returned (.tuple #[tv, .int .i64 ec]) ∧ Either b n ts tv ec w' ∧ Below w.heap.size w w' := by
  cases b with
  | false => exact ⟨_, _, h.1, .inl ⟨rfl, rfl, rfl⟩, h.2⟩
  | true =>
    obtain ⟨g, he, hp, _, hb⟩ := h
    rw [hl] at he hp
    exact ⟨_, _, he, .inr ⟨rfl, g, rfl, rfl, hp⟩, hb⟩

set_option maxRecDepth 100000 in
set_option maxHeartbeats 12800000 in
theorem turns_yes (w : World) (a : Option Addr) (n c : Nat) (ps : List Pt) (q r : Pt) (h : Pts w a n ps) (h0 : ¬ 1000 < n) (hq : Fits q) (hr : Fits r) (hs : shape ps = true) (hnq : near q = true) (hnr : near r = true) : Calls Try.prog 5 #[.slice a n c, .agg #[.int .i64 q.X, .int .i64 q.Y], .agg #[.int .i64 r.X, .int .i64 r.Y]] w (Yes w) := by
  have u0 : decide ((1000 : Int) < (n : Int)) = false := by simp; omega
  have HSH := Lib.hid hs
  have HNQ := Lib.hid hnq
  have HNR := Lib.hid hnr
  have HAL := Lib.hid (shape_len hs).2.2
  have HTL := Lib.hid (show (turned ps q r).length = n by unfold turned; rw [List.length_map, h.1])
  have HYES := Lib.hid (show (shape ps && (near q && near r)) = true by rw [hs, hnq, hnr]; rfl)
  have HF := Lib.hid (And.intro hq hr)
  have hn256 : n ≤ 256 := by have := shape_len hs; have := h.1; omega
  clear hs hnq hnr hq hr
  have b0 : Below w.heap.size w ((w.alloc (.cells #[.int .i64 q.X, .int .i64 q.Y] 37)).alloc (.cells #[.int .i64 r.X, .int .i64 r.Y] 37)) := ((Below.refl _ _).alloc (Nat.le_refl _) _).alloc (by simp) _
  have CA := Lib.hid (anchor_any ((w.alloc (.cells #[.int .i64 q.X, .int .i64 q.Y] 37)).alloc (.cells #[.int .i64 r.X, .int .i64 r.Y] 37)))
  have BX := Lib.hid (boxes_new w q r)
  have HB0 := Lib.hid b0
  have HP := Lib.hid (h.below b0)
  clear b0 h
  go_enter Try.func5, Try.ntmps5
  go_wp2_with fail
  refine CA.out.mono ?_
  rintro e w1 ⟨rfl, hb⟩
  have H1 := Lib.hid (And.intro (HP.out.below hb) (And.intro (BX.out.below hb) (below_more HB0.out hb (Nat.le_refl _))))
  clear hb CA HB0 BX HP
  have CP := Lib.hid (plain_any w1 a n c ps H1.out.1 (by omega))
  have hl := H1.out.1.1
  go_wp2_with fail
  refine CP.out.mono ?_
  rintro e w2 ⟨aa, c2, rfl, hp, _, _, _, hb⟩
  rw [hl] at hp ⊢
  obtain ⟨x0, x1, x2, x3⟩ := H1.out.2.1.below hb
  have s0 := World.block_lt_of_cell? _ _ x0
  have s1 := World.block_lt_of_cell? _ _ x2
  simp only at s0 s1
  have H2 := Lib.hid (And.intro (H1.out.1.below hb) (And.intro hp (And.intro (H1.out.2.1.below hb) (below_more H1.out.2.2 hb (Nat.le_refl _)))))
  have NA := Lib.hid (two31_new w2 q r)
  have NB := Lib.hid (two31_new w2 r q)
  clear hb CP H1 hp hl
  go_wp2_with fail
  go_cut [8, 9] from 30 (fun s8 s9 w' => ∃ Q R : Nat, s8 = .pointer (some ⟨Q, 0, none⟩) ∧ s9 = .pointer (some ⟨R, 0, none⟩) ∧ (Pts w' a n ps ∧ Pts w' aa n ps ∧ Boxes w' w.heap.size q r ∧ Below w.heap.size w w') ∧ Two31 w' Q R q r)
  case first =>
    go_region
    · have t := NA.out
      have X := Lib.hid (show (Pts ((w2.alloc (.cells #[.int .i64 q.X, .int .i64 q.Y] 31)).alloc (.cells #[.int .i64 r.X, .int .i64 r.Y] 31)).drew a n ps ∧ Pts ((w2.alloc (.cells #[.int .i64 q.X, .int .i64 q.Y] 31)).alloc (.cells #[.int .i64 r.X, .int .i64 r.Y] 31)).drew aa n ps ∧ Boxes ((w2.alloc (.cells #[.int .i64 q.X, .int .i64 q.Y] 31)).alloc (.cells #[.int .i64 r.X, .int .i64 r.Y] 31)).drew w.heap.size q r ∧ Below w.heap.size w ((w2.alloc (.cells #[.int .i64 q.X, .int .i64 q.Y] 31)).alloc (.cells #[.int .i64 r.X, .int .i64 r.Y] 31)).drew) ∧ Two31 ((w2.alloc (.cells #[.int .i64 q.X, .int .i64 q.Y] 31)).alloc (.cells #[.int .i64 r.X, .int .i64 r.Y] 31)).drew w2.heap.size (w2.heap.size + 1) q r from
        ⟨⟨H2.out.1.below t.2, H2.out.2.1.below t.2, H2.out.2.2.1.below t.2, below_more H2.out.2.2.2 t.2 (Nat.le_refl _)⟩, t.1.1, t.1.2⟩)
      clear t NA NB x0 x1 x2 x3 s0 s1
      go_wp2_with fail
      go_meet
      case rel => exact ⟨_, _, rfl, rfl, X.out⟩
    · have t := NB.out
      have X := Lib.hid (show (Pts ((w2.alloc (.cells #[.int .i64 r.X, .int .i64 r.Y] 31)).alloc (.cells #[.int .i64 q.X, .int .i64 q.Y] 31)).drew a n ps ∧ Pts ((w2.alloc (.cells #[.int .i64 r.X, .int .i64 r.Y] 31)).alloc (.cells #[.int .i64 q.X, .int .i64 q.Y] 31)).drew aa n ps ∧ Boxes ((w2.alloc (.cells #[.int .i64 r.X, .int .i64 r.Y] 31)).alloc (.cells #[.int .i64 q.X, .int .i64 q.Y] 31)).drew w.heap.size q r ∧ Below w.heap.size w ((w2.alloc (.cells #[.int .i64 r.X, .int .i64 r.Y] 31)).alloc (.cells #[.int .i64 q.X, .int .i64 q.Y] 31)).drew) ∧ Two31 ((w2.alloc (.cells #[.int .i64 r.X, .int .i64 r.Y] 31)).alloc (.cells #[.int .i64 q.X, .int .i64 q.Y] 31)).drew (w2.heap.size + 1) w2.heap.size q r from
        ⟨⟨H2.out.1.below t.2, H2.out.2.1.below t.2, H2.out.2.2.1.below t.2, below_more H2.out.2.2.2 t.2 (Nat.le_refl _)⟩, t.1.2, t.1.1⟩)
      clear t NA NB x0 x1 x2 x3 s0 s1
      go_wp2_with fail
      go_meet
      case rel => exact ⟨_, _, rfl, rfl, X.out⟩
  case rest =>
    obtain ⟨Q, R, rfl, rfl, hTB⟩ := hcut
    obtain ⟨Z, rfl⟩ : ∃ Z : World, Z = wc := ⟨_, rfl⟩
    have TB := Lib.hid hTB
    clear hTB NA NB H2 x0 x1 x2 x3 s0 s1
    obtain ⟨x0, x1, x2, x3⟩ := TB.out.1.2.2.1
    obtain ⟨⟨z0, z1⟩, z2, z3⟩ := TB.out.2
    have CT := Lib.hid (turn_any Z a n c ps q r TB.out.1.1 (by omega) HF.out.1 HF.out.2)
    rw [HYES.out, Bool.true_and] at CT
    go_wp2_with fail
    refine CT.out.mono ?_
    rintro e w3 hts
    obtain ⟨tv, ec, rfl, heith, hb⟩ := either_of HTL.out hts
    have H3 := Lib.hid (show ((Pts w3 a n ps ∧ Pts w3 aa n ps ∧ Boxes w3 w.heap.size q r ∧ Below w.heap.size w w3) ∧ Two31 w3 Q R q r) ∧ Either ((turned ps q r).all near) n (turned ps q r) tv ec w3 from ⟨⟨⟨TB.out.1.1.below hb, TB.out.1.2.1.below hb, TB.out.1.2.2.1.below hb, below_more TB.out.1.2.2.2 hb (Nat.le_refl _)⟩, TB.out.2.below hb⟩, heith⟩)
    clear hts heith hb CT TB x0 x1 x2 x3 z0 z1 z2 z3
    obtain ⟨x0, x1, x2, x3⟩ := H3.out.1.1.2.2.1
    obtain ⟨⟨z0, z1⟩, z2, z3⟩ := H3.out.1.2
    have CS := Lib.hid (docShape_any w3 aa n c2 ps H3.out.1.1.2.1 (by omega))
    rw [HSH.out] at CS
    go_wp2_with fail
    refine CS.out.mono ?_
    rintro e w4 ⟨rfl, hb⟩
    have H4 := Lib.hid (show ((Pts w4 a n ps ∧ Pts w4 aa n ps ∧ Boxes w4 w.heap.size q r ∧ Below w.heap.size w w4) ∧ Two31 w4 Q R q r) ∧ Either ((turned ps q r).all near) n (turned ps q r) tv ec w4 from ⟨⟨⟨H3.out.1.1.1.below hb, H3.out.1.1.2.1.below hb, H3.out.1.1.2.2.1.below hb, below_more H3.out.1.1.2.2.2 hb (Nat.le_refl _)⟩, H3.out.1.2.below hb⟩, H3.out.2.below hb⟩)
    clear hb H3 CS x0 x1 x2 x3 z0 z1 z2 z3
    obtain ⟨x0, x1, x2, x3⟩ := H4.out.1.1.2.2.1
    obtain ⟨⟨z0, z1⟩, z2, z3⟩ := H4.out.1.2
    have CR := Lib.hid (right_any w4 q)
    rw [HNQ.out] at CR
    go_wp2_with fail
    refine CR.out.mono ?_
    rintro e w5 ⟨rfl, hb⟩
    have H5 := Lib.hid (show ((Pts w5 a n ps ∧ Pts w5 aa n ps ∧ Boxes w5 w.heap.size q r ∧ Below w.heap.size w w5) ∧ Two31 w5 Q R q r) ∧ Either ((turned ps q r).all near) n (turned ps q r) tv ec w5 from ⟨⟨⟨H4.out.1.1.1.below hb, H4.out.1.1.2.1.below hb, H4.out.1.1.2.2.1.below hb, below_more H4.out.1.1.2.2.2 hb (Nat.le_refl _)⟩, H4.out.1.2.below hb⟩, H4.out.2.below hb⟩)
    clear hb H4 CR x0 x1 x2 x3 z0 z1 z2 z3
    obtain ⟨x0, x1, x2, x3⟩ := H5.out.1.1.2.2.1
    obtain ⟨⟨z0, z1⟩, z2, z3⟩ := H5.out.1.2
    have CR := Lib.hid (right_any w5 r)
    rw [HNR.out] at CR
    go_wp2_with fail
    refine CR.out.mono ?_
    rintro e w7 ⟨rfl, hb⟩
    have H7 := Lib.hid (show ((Pts w7 a n ps ∧ Pts w7 aa n ps ∧ Boxes w7 w.heap.size q r ∧ Below w.heap.size w w7) ∧ Two31 w7 Q R q r) ∧ Either ((turned ps q r).all near) n (turned ps q r) tv ec w7 from ⟨⟨⟨H5.out.1.1.1.below hb, H5.out.1.1.2.1.below hb, H5.out.1.1.2.2.1.below hb, below_more H5.out.1.1.2.2.2 hb (Nat.le_refl _)⟩, H5.out.1.2.below hb⟩, H5.out.2.below hb⟩)
    clear hb H5 CR x0 x1 x2 x3 z0 z1 z2 z3
    go_wp2_with fail
    go_loopw [12, 13, 60] (fun vf vw cnt wr => ∃ (i : Nat) (fl : Bool) (ww : Option Addr) (wcp : Nat), i ≤ n ∧ cnt = .int .i64 i ∧ vf = .bool fl ∧ vw = .slice ww i wcp ∧ fl = ((turned ps q r).take i).all near ∧ ((turned ps q r).take i).length = i ∧ GrowP w7.heap.size 31 w7 (.slice ww i wcp) ((turned ps q r).take i) wr) (fun _ _ cnt _ => n - (intOf cnt).toNat)
    case atStart => exact ⟨0, true, none, 0, Nat.zero_le _, rfl, rfl, rfl, rfl, rfl, GrowP.nil w7 31⟩
    case round =>
      obtain ⟨i, fl, ww, wcp, hi, rfl, rfl, rfl, hfl, htl, hgr⟩ := hrel
      by_cases hlt : i < n
      · obtain ⟨b, off, p, rfl, hp, fp, c0, c1⟩ := (H7.out.1.1.2.1.below hgr.old).at hlt
        obtain ⟨⟨z0, z1⟩, z2, z3⟩ := H7.out.1.2.below hgr.old
        have np := List.all_eq_true.1 HAL.out p (List.mem_of_getElem? hp)
        have s1 := World.block_lt_of_cell? _ _ z0
        have s2 := World.block_lt_of_cell? _ _ z2
        simp only at s1 s2
        have hTi : (turned ps q r)[i]? = some (timesZ p q r) := by unfold turned; rw [List.getElem?_map, hp]; rfl
        have CTM := Lib.hid (docTimes_any (wr.alloc (.cells #[.int .i64 p.X, .int .i64 p.Y] 31)) p q r np HNQ.out HNR.out)
        obtain ⟨T, hT⟩ : ∃ T, T = timesZ p q r := ⟨_, rfl⟩
        rw [← hT] at hTi CTM
        have tk : (turned ps q r).take (i + 1) = (turned ps q r).take i ++ [T] := take_more hTi
        have TT := Lib.hid (And.intro tk (And.intro htl (show ((turned ps q r).take (i + 1)).length = i + 1 by rw [tk, List.length_append, htl]; rfl)))
        have FL := Lib.hid (show (((turned ps q r).take (i + 1)).all near) = (fl && near T) by rw [tk, List.all_append, ← hfl]; simp)
        have b1 : Below wr.heap.size wr (wr.alloc (.cells #[.int .i64 p.X, .int .i64 p.Y] 31)) := (Below.refl _ _).alloc (Nat.le_refl _) _
        have G0 := Lib.hid (hgr.later b1)
        have op := one_pt wr p 31
        have v0 := cell_keep z0 b1
        have v1 := cell_keep z1 b1
        have v2 := cell_keep z2 b1
        have v3 := cell_keep z3 b1
        clear hgr hfl htl tk hTi hT fp np hp b1 z0 z1 z2 z3
        go_wp2_with fail
        refine CTM.out.mono ?_
        rintro e wb ⟨rfl, hb⟩
        have b2 : Below wb.heap.size wb (wb.alloc (.cells #[.int .i64 T.X, .int .i64 T.Y] 31)) := (Below.refl _ _).alloc (Nat.le_refl _) _
        have G1 := Lib.hid ((G0.out.later hb).later b2)
        have y0 : (wb.alloc (.cells #[.int .i64 T.X, .int .i64 T.Y] 31)).cell? ⟨wb.heap.size, 0, none⟩ = some (.int .i64 T.X) := (one_pt wb T 31).1
        have y1 : (wb.alloc (.cells #[.int .i64 T.X, .int .i64 T.Y] 31)).cell? ⟨wb.heap.size, 1, none⟩ = some (.int .i64 T.Y) := (one_pt wb T 31).2
        have GB := Lib.hid (G0.out.later hb)
        clear hb b2 G0 CTM c0 c1 v0 v1 v2 v3 s1 s2 op
        clear GB
        go_upto_region 15 with (fail)
        go_cut [12] from 68 to 77 (fun s12 w' => s12 = .bool (fl && near T) ∧ GrowP w7.heap.size 31 w7 (.slice ww i wcp) ((turned ps q r).take i) w' ∧ w'.cell? ⟨wb.heap.size, 0, none⟩ = some (.int .i64 T.X) ∧ w'.cell? ⟨wb.heap.size, 1, none⟩ = some (.int .i64 T.Y))
        case first =>
          cases fl with
          | false =>
            go_wp2_with fail
            go_meet
            case rel => exact ⟨rfl, G1.out, y0, y1⟩
          | true =>
            have CR := Lib.hid (right_any (wb.alloc (.cells #[.int .i64 T.X, .int .i64 T.Y] 31)) T)
            clear FL
            generalize near T = nt at *
            go_wp2_with fail
            refine CR.out.mono ?_
            rintro e wd ⟨rfl, hb⟩
            have XX := Lib.hid (And.intro (G1.out.later hb) (And.intro (cell_keep y0 hb) (cell_keep y1 hb)))
            clear hb CR
            go_wp2_with fail
            go_meet
            case rel => exact ⟨rfl, XX.out.1, XX.out.2.1, XX.out.2.2⟩
        case rest =>
          clear y0 y1 G1
          obtain ⟨rfl, hg3, y0, y1⟩ := hcut
          have G := Lib.hid hg3
          have FF := Lib.hid FL.out.symm
          clear hg3 FL
          have b9 : Below wc.heap.size wc (wc.alloc (.cells #[.int .i64 T.X, .int .i64 T.Y] 31)) := (Below.refl _ _).alloc (Nat.le_refl _) _
          have GP := Lib.hid (G.out.later b9)
          have OE := Lib.hid (one_pt wc T 31)
          have hwl : w7.heap.size ≤ wc.heap.size := G.out.old.size
          clear b9 G
          go_wp2_with (at_builtin; go_must (refine wpList_append_pt 27 31 Try.underlying27 info31 rfl (.tmp 73) (.tmp 75) rfl w7.heap.size i (.slice ww i wcp) ((turned ps q r).take i) T rfl ?g1 wc.heap.size 1 rfl ?g2 (by first | omega | (have k9 := hwl; simp at k9; omega) | (have k9 := hwl; simp only [World.alloc, Array.size_push] at k9; omega)) ?g3 ?g4))
          case g1 => have := GP.out.own; rwa [TT.out.2.1] at this
          case g2 => first | exact OE.out | (have := OE.out; simp only [World.alloc, Array.size_push] at this ⊢; exact this)
          case g3 => simp; omega
          case g4 =>
            intro aa2 cap2 w9 hown hg hat
            have GP3 := Lib.hid (show GrowP w7.heap.size 31 w7 (.slice aa2 (i + 1) cap2) ((turned ps q r).take (i + 1)) w9 from GP.out.grown (by rw [TT.out.2.2, TT.out.1]; exact hown) hg)
            clear hown hg hat GP OE y0 y1
            go_wp2_with fail
            go_roundw
            case rel => exact ⟨i + 1, (fl && near T), aa2, cap2, hlt, by go_num, rfl, rfl, FF.out, TT.out.2.2, GP3.out⟩
            case measure => simp [intOf]; omega

      · obtain rfl : i = n := by omega
        rw [List.take_of_length_le (by rw [HTL.out]; exact Nat.le_refl _)] at hfl htl hgr
        have hown := hgr.own
        rw [htl] at hown
        have hft : ∀ t ∈ turned ps q r, Fits t := by
          intro t ht
          obtain ⟨p, hp, rfl⟩ := List.mem_map.1 ht
          have k := times_fits (List.all_eq_true.1 HAL.out p hp) HNQ.out HNR.out
          have e : (2 : Nat) ^ 42 = 4398046511104 := by decide
          exact ⟨by omega, by omega⟩
        have PW := (pts_own hown hft).1
        have hE := H7.out.2.below hgr.old
        have H8 := Lib.hid (show (Pts wr a i ps ∧ Boxes wr w.heap.size q r ∧ Below w.heap.size w wr) ∧ Pts wr ww i (turned ps q r) from ⟨⟨H7.out.1.1.1.below hgr.old, H7.out.1.1.2.2.1.below hgr.old, below_more H7.out.1.1.2.2.2 hgr.old (Nat.le_refl _)⟩, PW⟩)
        clear hgr hown hft PW H7
        rcases hE with ⟨h1, rfl, rfl⟩ | ⟨h1, g, rfl, rfl, hpt⟩
        · rw [h1] at hfl
          subst hfl
          have X := Lib.hid H8.out.1.2.2
          clear H8 h1
          go_wp2_with fail
          go_ret
          exact ⟨rfl, X.out⟩
        · rw [h1] at hfl
          subst hfl
          have HT8 := Lib.hid hpt
          have HALT := Lib.hid h1
          clear hpt h1
          go_wp2_with fail
          obtain ⟨w8, rfl⟩ : ∃ w8 : World, w8 = wr := ⟨_, rfl⟩
          go_loopw [98] (fun cnt wl => ∃ i' : Nat, i' ≤ i ∧ cnt = .int .i64 i' ∧ Below w8.heap.size w8 wl) (fun cnt _ => i - (intOf cnt).toNat)
          case atStart => exact ⟨0, Nat.zero_le _, rfl, Below.refl _ _⟩
          case round =>
            obtain ⟨j, hj, rfl, hb⟩ := hrel
            by_cases hlt : j < i
            · obtain ⟨b1, o1, p, e1, hp1, _, c0, c1⟩ := (HT8.out.below hb).at hlt
              cases e1
              obtain ⟨b2, o2, p', rfl, hp2, _, d0, d1⟩ := (H8.out.2.below hb).at hlt
              rw [hp1] at hp2
              cases hp2
              simp only [Nat.zero_add] at c0 c1
              have hl2 := World.block_lt_of_cell? _ _ d0
              simp only at hl2
              have HB5 := Lib.hid (hb.alloc hb.size (.cells #[.int .i64 p.X, .int .i64 p.Y] 37))
              clear hb hp1
              go_wp2_with fail
              go_quiet (fail)
              go_wp2_with fail
              go_roundw
              case rel => exact ⟨j + 1, hlt, by go_num, below_drewN HB5.out _⟩
              case measure => simp [intOf]; omega
            · obtain rfl : j = i := by omega
              have hP := H8.out.1.1.below hb
              have hT := HT8.out.below hb
              obtain ⟨x0, x1, x2, x3⟩ := H8.out.1.2.1.below hb
              have H9 := Lib.hid (And.intro hP (And.intro hT (below_more H8.out.1.2.2 hb (Nat.le_refl _))))
              have ST := shape_of HSH.out (by rw [HTL.out, hP.1]) HALT.out
              have CA1 := Lib.hid (area_yes wr a j c ps hP HSH.out)
              have HST := Lib.hid ST
              obtain ⟨A, Bz, m1, m2, hAA, hBB, wm1, wm2, j1, j2, j3⟩ := turn_nums HSH.out ST HNQ.out
              rw [← hAA] at CA1
              have HBB := Lib.hid hBB
              clear hb hP hT ST hAA hBB H8 HT8
              go_wp2_with fail
              refine CA1.out.mono ?_
              rintro e w10 ⟨rfl, hb⟩
              have y0 := cell_keep x0 hb
              have y1 := cell_keep x1 hb
              have CA2 := Lib.hid (area_yes w10 (some ⟨g, 0, none⟩) j j _ (H9.out.2.1.below hb) HST.out)
              rw [← HBB.out] at CA2
              have H10 := Lib.hid (below_more H9.out.2.2 hb (Nat.le_refl _))
              clear hb CA1 H9 x0 x1 x2 x3
              go_wp2_with fail
              refine CA2.out.mono ?_
              rintro e w11 ⟨rfl, hb⟩
              have x0 := cell_keep y0 hb
              have x1 := cell_keep y1 hb
              have X := Lib.hid (below_more H10.out hb (Nat.le_refl _))
              clear hb CA2 H10 y0 y1
              go_wp2_with fail
              go_ret
              exact ⟨rfl, X.out⟩
theorem turns_law (w : World) (a : Option Addr) (n c : Nat) (ps : List Pt) (q r : Pt) (hp : Pts w a n ps ∧ n ≤ c) (hq : Fits q) (hr : Fits r) :
    Calls Try.prog 5 #[.slice a n c, .agg #[.int .i64 q.X, .int .i64 q.Y], .agg #[.int .i64 r.X, .int .i64 r.Y]] w (Yes w) := by
  by_cases h0 : 1000 < n
  · exact turns_out w a n c ps q r hp.1 h0
  · cases hs : shape ps with
    | false => exact turns_no0 w a n c ps q r hp.1 h0 hq hr hs
    | true =>
      cases hnq : near q with
      | false => exact turns_no1 w a n c ps q r hp.1 h0 hq hr hs hnq
      | true =>
        cases hnr : near r with
        | false => exact turns_no2 w a n c ps q r hp.1 h0 hq hr hs hnq hnr
        | true => exact turns_yes w a n c ps q r hp.1 h0 hq hr hs hnq hnr
end Go.Proofs.Ytboocllckolmgaa
