/- Find, whatever the effort; the walk of LzFinds. -/
import Derived.Test.YtaandnikamnbbaaN
namespace Go.Proofs.Ytaandnikamnbbaa
open Go.RowKit
set_option linter.unusedVariables false

theorem find_any (w : World) (a : Option Addr) (n c : Nat) (ys : List Nat) (effort : Int) (h : Arg w a n c ys) (hn : n ≤ 16777215) (he : -9223372036854775808 ≤ effort ∧ effort ≤ 9223372036854775807) :
    Calls Try.prog 11 #[.slice a n c, .int .i64 effort] w (Finds w (found ys effort)) := by
  by_cases h0 : effort ≤ 0
  · have e : found ys effort = ys.map lit := by unfold found; rw [if_pos h0]
    rw [e]
    exact find_none w a n c ys effort h.1 (by omega) h0
  · exact find_some w a n c ys effort h hn (by omega)
/-- What a law asks of what is found. -/
structure Found (ys : List Nat) (effort : Int) (ts : List Tok) : Prop where
  spell : Spell ys 0 ts
  few : ts.length ≤ ys.length
  none : effort ≤ 0 → ts.length = ys.length ∧ ∀ t ∈ ts, t.L = 0
theorem found_all {ys : List Nat} (hy : ∀ y ∈ ys, y < 256) (effort : Int) : Found ys effort (found ys effort) := by
  refine ⟨found_spell hy effort, by have := spell_length 0 _ (found_spell hy effort); omega, fun h => ?_⟩
  unfold found
  rw [if_pos h]
  refine ⟨by simp, fun t ht => ?_⟩
  obtain ⟨y, _, rfl⟩ := List.mem_map.1 ht
  rfl
theorem Found.brings {ys : List Nat} {effort : Int} {ts : List Tok} (h : Found ys effort ts) : brings (ys.length : Int) [] ts = (0, ys) := by
  have := spell_brings (ys.length : Int) (Int.le_refl _) 0 ts h.spell
  rwa [List.take_zero] at this
theorem Found.short {ys : List Nat} {effort : Int} {ts : List Tok} (h : Found ys effort ts) (most : Int) (h0 : 0 ≤ most) (hm : most < ys.length) : Ytaandnikamnbbaa.brings most [] ts = (24, []) := by
  have := spell_short most hm 0 (by omega) ts h.spell
  rwa [List.take_zero] at this

/-- make with no length and a capacity. -/
theorem wpList_make_cap {w : World} {ops : Array Oper} {rest : List Oper} {o : Oper} {a : Act} {Q : Exit → Act → World → Prop} (hg : o.guard = none) (l c : Operand) (hop : o.op = Op.makeSlice 24 l c)
    (m : Nat) (hl : a.eval l = .int .i64 0) (hc : a.eval c = .int .i64 m) (hm : m ≤ 33554432)
    (hK : ∀ w', w'.ownsRow w.heap.size 5 1 (.slice (some ⟨w.heap.size, 0, none⟩) 0 m) 0 (bys []) → Below w.heap.size w w' → wpList Try.prog ops Q rest (a.put o.dst (.slice (some ⟨w.heap.size, 0, none⟩) 0 m)) w') :
    wpList Try.prog ops Q (o :: rest) a w := by
  obtain ⟨i0, hi, hz0, hz1, hz2⟩ := info_parts info5
  have hr := run_make (P := Try.prog) w 24 5 i0 (.int .u8 0) Try.underlying24 hi hz0 .i64 .i64 0 m (by omega) (by omega) (by rw [hz2]; omega) (by omega)
  rw [hz1, Nat.mul_one, Int.toNat_natCast, show (0 : Int).toNat = 0 from rfl] at hr
  refine wpList_plain hg fun K hK' => ?_
  unfold Oper.wp
  simp [execOp, hop, hl, hc, hr, Result.andThen]
  refine hK' _ _ (hK _ ⟨rfl, Or.inr ⟨w.heap.size, m, madeCells #[.int .u8 0] m, rfl, Nat.le_refl _, heap_alloc_new _ _, Nat.zero_le _, by unfold maxLen; omega, by simp [size_madeCells], by simp [bys]⟩⟩ ((Below.refl _ _).alloc (Nat.le_refl _) _))

set_option maxRecDepth 100000 in
set_option maxHeartbeats 3200000 in
theorem finds_law (w : World) (a : Option Addr) (n c : Nat) (ys : List Nat) (effort : Int) (h : Arg w a n c ys) (he : -9223372036854775808 ≤ effort ∧ effort ≤ 9223372036854775807) :
    Calls Try.prog 4 #[.slice a n c, .int .i64 effort] w (Yes w) := by
  have CA := Lib.hid (anchor_any w)
  by_cases hbig : 4000 < n
  · have u : decide ((4000 : Int) < (n : Int)) = true := by simp; omega
    clear h
    go_enter Try.func4, Try.ntmps4
    go_wp2_with fail
    refine CA.out.mono ?_
    rintro e w1 ⟨rfl, hb⟩
    have X := Lib.hid hb
    clear hb
    go_wp2_with fail
    go_ret
    exact ⟨rfl, X.out⟩
  · have u : decide ((4000 : Int) < (n : Int)) = false := by simp; omega
    have HA := Lib.hid h
    have hyl : ys.length = n := h.1.1
    have HF := Lib.hid (found_all h.1.2.1 effort)
    have HYL := Lib.hid hyl
    clear h hyl
    go_enter Try.func4, Try.ntmps4
    go_wp2_with fail
    refine CA.out.mono ?_
    rintro e w1 ⟨rfl, hb⟩
    have HW := Lib.hid hb
    have A1 := Lib.hid (HA.out.below hb)
    clear hb CA
    go_wp2_with (at_make; go_must (refine wpList_make_cap rfl (.const (.int .i64 0)) (.tmp 18) rfl (n + 8) rfl ?c1 (by omega) ?c2))
    case c1 => first | rfl | (simp; done) | trivial
    case c2 =>
      intro w2 hown hb2
      have A2 := Lib.hid (A1.out.below hb2)
      have HO := Lib.hid hown
      have HB2 := Lib.hid hb2
      have hw2 := hb2.size
      clear hown hb2
      go_wp2_with (at_builtin; go_must (refine wpList_append_text rfl (.tmp 19) (.tmp 20) rfl w1.heap.size 0 (.slice (some ⟨w1.heap.size, 0, none⟩) 0 (n + 8)) [] rfl ?e1 a n c ys rfl ?e2 A2.out.2.2 (by omega) (by omega) ?e3 ?e4))
      case e1 => exact HO.out
      case e2 => exact A2.out.1
      case e3 => omega
      case e4 =>
        intro aa cap w3 hown hg hat
        try simp only [Nat.zero_add] at hown
        try simp only [List.nil_append] at hown
        have hb3 : Below w1.heap.size w1 w3 := grown_below (Nat.le_refl _) HB2.out hg (fun k e => by cases e; exact Nat.le_refl _)
        have hga : Arg w3 aa n cap ys := bytes_of_own hown A2.out.1.2.1
        have C3 := Lib.hid (find_any w3 aa n cap ys effort hga (by omega) he)
        have A3 := Lib.hid (A1.out.below hb3)
        have G3 := Lib.hid hga
        have H3 := Lib.hid (below_more HW.out hb3 (Nat.le_refl _))
        clear hown hg hat hb3 hga A2 HO HB2
        generalize found ys effort = ts at *
        have htl : ts.length ≤ 4000 := by have := HF.out.few; rw [HYL.out] at this; omega
        go_wp2_with fail
        refine C3.out.mono ?_
        rintro e w4 ⟨al, cl, rfl, htk, _, hb4⟩
        have A4 := Lib.hid (A3.out.below hb4)
        have s1 := conv_arg A4.out
        have s2 := conv_arg (G3.out.below hb4)
        have H4 := Lib.hid (below_more H3.out hb4 (Nat.le_refl _))
        have T4 := Lib.hid htk
        clear htk hb4 C3
        obtain ⟨sx, hsx⟩ : ∃ sx, sx = strOf ys := ⟨_, rfl⟩
        rw [← hsx] at s1 s2
        have HSX := Lib.hid hsx
        clear hsx
        obtain ⟨wo, rfl⟩ : ∃ wo : World, wo = w4 := ⟨_, rfl⟩
        go_wp2_with fail
        clear s1 s2
        go_loopw [32] (fun cnt wl => ∃ i : Nat, i ≤ ts.length ∧ cnt = .int .i64 i ∧ Below wo.heap.size wo wl) (fun cnt _ => ts.length - (intOf cnt).toNat)
        case atStart => exact ⟨0, Nat.zero_le _, rfl, Below.refl _ _⟩
        case round =>
          obtain ⟨i, hi, rfl, hb⟩ := hrel
          by_cases hlt : i < ts.length
          · obtain ⟨b5, o5, t, rfl, hti, hfit, t0, t1, t2⟩ := (T4.out.below hb).at hlt
            have HB5 := Lib.hid (hb.alloc hb.size (.cells #[.int .i64 t.L, .int .i64 t.D, .int .u8 (t.X : Nat)] 27))
            by_cases h0 : effort ≤ 0
            · have hL := (HF.out.none h0).2 t (List.mem_of_getElem? hti)
              have u1 : decide (effort ≤ 0) = true := by simpa using h0
              obtain ⟨L, D, X⟩ := t
              simp only at hL
              subst hL
              simp only at t0 t1 t2
              clear hti hb hfit
              go_wp2_with fail
              go_roundw
              case rel => exact ⟨i + 1, hlt, by go_num, HB5.out⟩
              case measure => simp [intOf]; omega
            · have u1 : decide (effort ≤ 0) = false := by simpa using h0
              clear hti hb hfit
              go_wp2_with fail
              go_roundw
              case rel => exact ⟨i + 1, hlt, by go_num, HB5.out⟩
              case measure => simp [intOf]; omega
          · obtain rfl : i = ts.length := by omega
            have CB := bytes_any wr al ts.length cl ts n (T4.out.below hb) (by have := HF.out.few; rw [HYL.out] at this; omega) (by omega)
            have hbr := HF.out.brings
            rw [HYL.out] at hbr
            have CB := Lib.hid CB
            have HBR := Lib.hid hbr
            have H5 := Lib.hid (below_more H4.out hb (Nat.le_refl _))
            have A5 := Lib.hid (A4.out.below hb)
            clear hb hbr
            go_wp2_with fail
            refine CB.out.mono ?_
            rintro e w6 ⟨bb, c6, he6, hg6⟩
            rw [HBR.out] at he6 hg6
            have hyl := HYL.out
            simp only [hyl] at he6
            subst he6
            have ga : Arg w6 bb n c6 ys := by have := hg6.arg; rwa [hyl] at this
            have s1 := conv_arg (A5.out.below hg6.old)
            have s2 := conv_arg ga
            rw [← HSX.out] at s1 s2
            have H6 := Lib.hid (below_more H5.out hg6.old (Nat.le_refl _))
            clear hg6 hyl ga CB
            by_cases h0 : effort ≤ 0
            · have hlen := (HF.out.none h0).1
              rw [HYL.out] at hlen
              have u1 : decide (0 < effort) = false := by simp; omega
              subst hlen
              go_wp2_with fail
              go_ret
              exact ⟨rfl, H6.out⟩
            · have u1 : decide (0 < effort) = true := by simp; omega
              go_wp2_with fail
              go_ret
              exact ⟨rfl, H6.out⟩
end Go.Proofs.Ytaandnikamnbbaa
