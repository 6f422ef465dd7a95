/- The contract of the document's Scan. -/
import Derived.Test.YthddjfaeacmlhaaDoorJG
namespace Go.Proofs.YthddjfaeacmlhaaDoor
open Go.RowKit Jr
set_option linter.unusedVariables false

/-- The document's Scan under way. -/
structure DSc (B0 : Nat) (w : World) (ys : List Nat) (aa : Option Addr) (k cc E : Nat) (w' : World) : Prop where
  low : E ≤ ys.length
  own : ∃ ps, OwnL w' w.heap.size (fun q => q < w.heap.size ∧ B0 ≤ q) aa k cc ps ∧ scan ys = (ps ++ (scan (ys.drop E)).1, E + (scan (ys.drop E)).2)
  below : Below w.heap.size w w'
  few : 8 * k ≤ E
theorem DSc.start (B0 : Nat) (w : World) (ys : List Nat) : DSc B0 w ys none 0 0 0 w := ⟨Nat.zero_le _, ⟨[], OwnL.nil _ _ _, by rw [List.drop_zero]; simp⟩, Below.refl _ _, Nat.le_refl _⟩
theorem DSc.later {B0 : Nat} {w w1 w2 : World} {ys : List Nat} {aa : Option Addr} {k cc E : Nat} (h : DSc B0 w ys aa k cc E w1) (hb : Below w1.heap.size w1 w2) : DSc B0 w ys aa k cc E w2 := by
  obtain ⟨h1, ⟨ps, h2, h3⟩, h4, h5⟩ := h
  exact ⟨h1, ⟨ps, h2.below hb, h3⟩, below_more h4 hb (Nat.le_refl _), h5⟩
/-- What the document's Scan tells. -/
def DScannedF (B0 : Nat) (w : World) (r : List (List Nat) × Nat) (e : Ending) (w' : World) : Prop :=
  ∃ aa c, e = .returned (.tuple #[.slice aa r.1.length c, .int .i64 r.2]) ∧ Tx w' (fun q => w.heap.size ≤ q ∨ B0 ≤ q) aa r.1.length c r.1 ∧ Below w.heap.size w w'
theorem DSc.stop {B0 : Nat} {w w' : World} {ys : List Nat} {aa : Option Addr} {k cc E : Nat} (h : DSc B0 w ys aa k cc E w') (hh : head (ys.drop E) = none) : DScannedF B0 w (scan ys) (.returned (.tuple #[.slice aa k cc, .int .i64 E])) w' := by
  obtain ⟨h1, ⟨ps, h2, h3⟩, h4, _⟩ := h
  rw [scan_stop h3 hh]
  obtain rfl := h2.1
  exact ⟨aa, cc, rfl, h2.tx.mono (fun q _ h => by rcases h with h | h; exact Or.inl h; exact Or.inr h.2), h4⟩
theorem DSc.step {B0 : Nat} {w w1 w2 w3 : World} {ys : List Nat} {aa : Option Addr} {k cc E : Nat} (hy : Byte ys) (h : DSc B0 w ys aa k cc E w1) {p : List Nat} (hh : head (ys.drop E) = some p) (hb : Below w1.heap.size w1 w2)
    {aa' : Option Addr} {cap : Nat} {ps : List (List Nat)} (e : scan ys = (ps ++ (scan (ys.drop E)).1, E + (scan (ys.drop E)).2))
    (ho : OwnL w3 w.heap.size (fun q => q < w.heap.size ∧ B0 ≤ q) aa' (k + 1) cap (ps ++ [p])) (hg : w2.grownBy w3 (Value.slice aa k cc).ownBlock) (hown : ∀ g, (Value.slice aa k cc).ownBlock = some g → w.heap.size ≤ g) :
    DSc B0 w ys aa' (k + 1) cap (E + (8 + p.length)) w3 := by
  have hs := head_some (hy.drop E) hh
  rw [List.length_drop] at hs
  exact ⟨by have := hs.2.1; omega, ⟨ps ++ [p], ho, scan_step hy e hh⟩, grown_below (Nat.le_refl _) (below_more h.below hb (Nat.le_refl _)) hg hown, by have := h.few; omega⟩
set_option maxRecDepth 100000 in
set_option maxHeartbeats 3200000 in
theorem docScan_far (B0 : Nat) (w : World) (a : Option Addr) (n c : Nat) (ys : List Nat) (h : Arg w a n c ys) (hn : n ≤ 16777216) (hB0 : ∀ ad, 0 < n → a = some ad → B0 ≤ ad.block) : Calls Tryd.prog 10 #[.slice a n c] w (DScannedF B0 w (scan ys)) := by
  have HB0 := Lib.hid hB0
  clear hB0
  have HA := Lib.hid h
  have HL := Lib.hid h.len
  have hnc := h.2.1
  clear h
  go_enter Tryd.func10, Tryd.ntmps10
  go_wp2_with fail
  go_loopw [4, 5] (fun o cnt wr => ∃ (aa : Option Addr) (k cc E : Nat), DSc B0 w ys aa k cc E wr ∧ o = .slice aa k cc ∧ cnt = .int .i64 E) (fun _ cnt _ => n - (intOf cnt).toNat)
  case atStart => exact ⟨none, 0, 0, 0, DSc.start B0 w ys, rfl, rfl⟩
  case round =>
    obtain ⟨aa, k, cc, E, hS, rfl, rfl⟩ := hrel
    have hEl := hS.low
    rw [HL.out] at hEl
    have HS := Lib.hid hS
    clear hS
    by_cases h8 : E + 8 ≤ n
    · obtain ⟨b, off, rfl, _⟩ := HA.out.1.2.2 (by omega)
      have HSA := Lib.hid (HA.out.below HS.out.below)
      have k4 := (HSA.out.take (k := E + 4) (by omega)).drop (k := E) (by omega)
      rw [if_neg (by omega), Option.map_some, add_spot] at k4
      have e4 : (ys.take (E + 4)).drop E = (ys.drop E).take 4 := by rw [List.drop_take, Nat.add_sub_cancel_left]
      rw [e4] at k4
      have el4 : E + 4 - E = 4 := by omega
      rw [el4] at k4
      have CN := Lib.hid (docNumber_any wr _ _ _ _ k4 (by omega))
      have hv := numb_lt ((ys.drop E).take 4) (by rw [List.length_take, List.length_drop, HL.out]; omega) ((HA.out.byte.drop E).take 4)
      obtain ⟨E4, hE4⟩ : ∃ E4, E4 = E + 4 := ⟨_, rfl⟩
      have hw4 : wrap64 ((E : Int) + 4) = (E4 : Int) := by rw [w64 _ (by omega) (by omega)]; omega
      have hEc : ¬ c = E := by omega
      have hb1 : E ≤ E4 := by omega
      have hb2 : E4 ≤ c := by omega
      have hb3 : (E4 : Int) ≤ (c : Int) := by omega
      have hb4 : (E : Int) ≤ (E4 : Int) := by omega
      have hl4 : E4 - E = 4 := by omega
      clear k4 e4 el4
      go_upto_region 4 with (fail)
      have HBD := Lib.hid (And.intro hEl (And.intro h8 (And.intro hn (And.intro hnc hE4))))
      clear hEl h8 hn hnc hE4
      generalize hvv : numb ((ys.drop E).take 4) = v at *
      have HV := Lib.hid hvv
      clear hvv
      go_wp2_with fail
      refine CN.out.mono ?_
      rintro e w1 ⟨rfl, rfl⟩
      obtain ⟨hEl, h8, hn, hnc, hE4⟩ := HBD.out
      clear hb1 hb2 hb3 hb4 hl4
      by_cases hbig : 8388608 < v ∨ n < E + 8 + v
      · have X := Lib.hid (HS.out.stop (head_big (by rw [HV.out, List.length_drop, HL.out]; omega)))
        by_cases hb1 : 8388608 < v
        · have t1 : decide ((8388608 : Int) < v) = true := by simp; omega
          go_wp2_with fail
          go_ret2
          exact X.out
        · have t1 : decide ((8388608 : Int) < v) = false := by simp; omega
          have t2 : decide ((n : Int) < (E : Int) + 8 + (v : Int)) = true := by simp; omega
          go_wp2_with fail
          go_ret2
          exact X.out
      · have t1 : decide ((8388608 : Int) < v) = false := by simp; omega
        have t2 : decide ((n : Int) < (E : Int) + 8 + (v : Int)) = false := by simp; omega
        go_upto_region 6 with (fail)
        have HW4 := Lib.hid hw4
        clear hw4
        have hpa := (HSA.out.take (k := E4 + v) (by omega)).drop (k := E4) (by omega)
        have hp9 := (HSA.out.take (k := E + 8 + v) (by omega)).drop (k := E) (by omega)
        rw [if_neg (by omega), Option.map_some, add_spot] at hpa hp9
        obtain ⟨P, hP⟩ : ∃ P, P = ((ys.drop E).drop 4).take v := ⟨_, rfl⟩
        have e1 : (ys.take (E4 + v)).drop E4 = P := by rw [hP, List.drop_take, Nat.add_sub_cancel_left, List.drop_drop, hE4]
        obtain ⟨R, hR⟩ : ∃ R, R = (ys.drop E).take (8 + v) := ⟨_, rfl⟩
        have e2 : (ys.take (E + 8 + v)).drop E = R := by rw [hR, List.drop_take, Nat.add_assoc, Nat.add_sub_cancel_left]
        rw [e1] at hpa
        rw [e2] at hp9
        obtain ⟨E5, hE5⟩ : ∃ E5, E5 = E4 + v := ⟨_, rfl⟩
        obtain ⟨E8, hE8⟩ : ∃ E8, E8 = E + 8 := ⟨_, rfl⟩
        obtain ⟨E9, hE9⟩ : ∃ E9, E9 = E8 + v := ⟨_, rfl⟩
        have hl5 : E5 - E4 = v := by omega
        have hl9 : E9 - E = 8 + v := by omega
        rw [← hE5, hl5] at hpa
        rw [← hE8, ← hE9, hl9] at hp9
        have hPl : P.length = v := hpa.len
        have CR := Lib.hid (fun (w' : World) (hb : Below w1.heap.size w1 w') => show Calls Tryd.prog 14 #[.slice (some ⟨b, off + E4, none⟩) v (c - E4)] w' (fun e w'' => ∃ aa c, e = .returned (.slice aa (v + 8) c) ∧ Arg w'' aa (v + 8) c (recd P) ∧ Below w1.heap.size w1 w'') from by
          have k := docRecord_any w' _ _ _ _ (hpa.below hb) (by omega)
          refine k.mono ?_
          rintro e w'' ⟨aa, c, he, ho, hb2⟩
          rw [hPl] at he ho
          exact ⟨aa, c, he, arg_of_own ho (recd_byte hpa.byte), below_more hb hb2 (Nat.le_refl _)⟩)
        have CS := Lib.hid (fun (w' : World) (aa : Option Addr) (c2 : Nat) (ha : Arg w' aa (v + 8) c2 (recd P)) (hb : Below w1.heap.size w1 w') => show Calls Tryd.prog 13 #[.slice aa (v + 8) c2, .slice (some ⟨b, off + E, none⟩) (8 + v) (c - E)] w' (fun en w'' => en = .returned (.bool (decide (recd P = R))) ∧ Below w1.heap.size w1 w'') from
          (same_any w' _ _ _ _ _ _ _ _ ha (hp9.below hb) (by omega) (by omega)).mono (fun en w'' h => ⟨h.1, below_more hb h.2 (Nat.le_refl _)⟩))
        have hq1 : ¬ c = E4 := by omega
        have hq2 : E4 ≤ E5 := by omega
        have hq3 : E5 ≤ c := by omega
        have hq4 : (E5 : Int) ≤ (c : Int) := by omega
        have hq5 : (E4 : Int) ≤ (E5 : Int) := by omega
        have hr2 : E ≤ E9 := by omega
        have hr3 : E9 ≤ c := by omega
        have hr4 : (E9 : Int) ≤ (c : Int) := by omega
        have hr5 : (E : Int) ≤ (E9 : Int) := by omega
        have hv2 : v ≤ 8388608 := by omega
        have HWS := Lib.hid (show wrap64 ((E4 : Int) + (v : Int)) = (E5 : Int) ∧ wrap64 ((E : Int) + 8) = (E8 : Int) ∧ wrap64 ((E8 : Int) + (v : Int)) = (E9 : Int) from
          ⟨(w64 _ (by omega) (by omega)).trans (by omega), (w64 _ (by omega) (by omega)).trans (by omega), (w64 _ (by omega) (by omega)).trans (by omega)⟩)
        have HBE := Lib.hid (And.intro hv2 (show v + 8 ≤ n - E by omega))
        have HPA := Lib.hid hpa
        have HEQ := Lib.hid (And.intro hP (And.intro hR (And.intro hPl (And.intro hE4 (And.intro hE8 (And.intro hE5 hE9))))))
        have hh0 := head_yes (b := ys.drop E) (n := v) (HA.out.byte.drop E) HV.out hv2 (by rw [List.length_drop, HL.out]; omega)
        have hh1 := head_none (b := ys.drop E) (n := v) (HA.out.byte.drop E) HV.out hv2 (by rw [List.length_drop, HL.out]; omega)
        rw [← hP, ← hR] at hh0 hh1
        have HH := Lib.hid (And.intro hh0 hh1)
        clear hpa hp9 e1 e2 hE5 hE8 hE9 hP hR hEl h8 hn hnc hE4 t1 t2 hv hh0 hh1 hv2 hbig hPl
        have hw4 := HW4.out
        obtain ⟨hw5, hw8, hw9⟩ := HWS.out
        have hx8 : IntKind.i64.wrap ((E : Int) + 8) = (E8 : Int) := by rw [IntWalk.i64_left]; exact hw8
        have hx9 : IntKind.i64.wrap ((E8 : Int) + (v : Int)) = (E9 : Int) := by rw [IntWalk.i64_left]; exact hw9
        generalize hZ : decide (recd P = R) = Z at *
        have HZ := Lib.hid hZ
        clear hZ
        go_upto_region 7 with (fail)
        go_region_law (first
          | (go_simp; (with_reducible refine (CR.out _ (by first | exact Below.refl _ _ | exact below_drew (Below.refl _ _))).mono ?_); rintro e w5 ⟨a5, c5, rfl, ho5, hb5⟩; have H5 := Lib.hid ho5; have B5 := Lib.hid hb5; clear ho5 hb5)
          | (go_simp; (with_reducible refine (CS.out _ _ _ H5.out B5.out).mono ?_); rintro e w6 ⟨rfl, hb6⟩; have B6 := Lib.hid hb6; clear hb6))
        all_goals
          clear hw4 hw5 hw8 hw9 hx8 hx9 hq1 hq2 hq3 hq4 hq5 hr2 hr3 hr4 hr5 hl5 hl9 hEc
          have HS6 := Lib.hid (HS.out.later B6.out)
          cases Z with
          | false =>
            have X := Lib.hid (HS6.out.stop (HH.out.2 (of_decide_eq_false HZ.out)))
            go_wp2_with fail
            go_ret2
            exact X.out
          | true =>
            have hh := HH.out.1 (of_decide_eq_true HZ.out)
            have HHH := Lib.hid hh
            obtain ⟨hv2, hvn⟩ := HBE.out
            obtain ⟨w7, hw7⟩ : ∃ w7, w7 = w6.alloc (.cells #[.slice (some ⟨b, off + E4, none⟩) v (c - E4)] 22) := ⟨_, rfl⟩
            have hb7 : Below w6.heap.size w6 w7 := by rw [hw7]; exact (Below.refl _ _).alloc (Nat.le_refl _) _
            have hS7 := HS6.out.later hb7
            obtain ⟨ps, ho7, he7⟩ := hS7.own
            have hpa7 := HPA.out.below (below_more B6.out hb7 (Nat.le_refl _))
            have hit : Items w7 (fun q => q < w.heap.size ∧ B0 ≤ q) [.slice (some ⟨b, off + E4, none⟩) v (c - E4)] [P] :=
              Items.one ⟨_, _, _, rfl, hpa7, fun ad _ e => by cases e; exact ⟨HA.out.lt ⟨b, off, none⟩ (by obtain ⟨_, h8, _⟩ := HBD.out; omega) rfl, HB0.out ⟨b, off, none⟩ (by obtain ⟨_, h8, _⟩ := HBD.out; omega) rfl⟩⟩
            have hcl : w7.cell? ⟨w6.heap.size, 0, none⟩ = some (.slice (some ⟨b, off + E4, none⟩) v (c - E4)) := by rw [hw7]; simp
            have hown : ∀ g, (Value.slice aa k cc).ownBlock = some g → w.heap.size ≤ g := by
              obtain ⟨_, vs, hv, _⟩ := ho7
              exact fun g e => (hv.lt g e).1
            have hs7 : w.heap.size ≤ w7.heap.size := hS7.below.size
            have hk8 := HS6.out.few
            have hEl := HBD.out.1
            have hn := HBD.out.2.2.1
            have H7 := Lib.hid (And.intro ho7 (And.intro he7 (And.intro hit (And.intro hcl hown))))
            have HW7 := Lib.hid hw7
            have HB7 := Lib.hid hb7
            clear hh hb7 hS7 ho7 he7 hpa7 hit hcl hown hw7
            go_wp2_with (at_builtin; go_must (rw [← HW7.out]; refine wpList_append_vals rfl (.tmp 49) (.tmp 51) rfl w.heap.size (fun q => q < w.heap.size ∧ B0 ≤ q) aa k cc ps rfl H7.out.1 (some ⟨w6.heap.size, 0, none⟩) 1 1 [P] rfl [.slice (some ⟨b, off + E4, none⟩) v (c - E4)] rfl (by intro e; cases e) H7.out.2.2.1 ?f5 (by omega) (by omega) hs7 (fun q hq e => by have := H7.out.2.2.2.2 q e; have := hq.1; omega) ?f6))
            case f5 =>
              intro _
              refine ⟨_, _, rfl, fun i v hi => ?_⟩
              cases i with
              | zero => simp only [List.getElem?_cons_zero, Option.some.injEq] at hi; subst hi; exact H7.out.2.2.2.1
              | succ i => simp at hi
            case f6 =>
              intro a8 c8 w8 ho8 hg8 _
              have X := HS6.out.step HA.out.byte HHH.out HB7.out H7.out.2.1 ho8 hg8 H7.out.2.2.2.2
              rw [HEQ.out.2.2.1] at X
              have X := Lib.hid X
              clear ho8 hg8
              go_wp2_with fail
              go_roundw
              case rel => exact ⟨a8, k + 1, c8, E + (8 + v), X.out, rfl, by go_num⟩
              case measure => simp [intOf]; omega
    · have X := Lib.hid (HS.out.stop (head_small (by rw [List.length_drop, HL.out]; omega)))
      go_wp2_with fail
      go_ret2
      exact X.out
/-- What the document's Scan tells, less said. -/
def DScanned (w : World) (r : List (List Nat) × Nat) (e : Ending) (w' : World) : Prop :=
  ∃ aa c, e = .returned (.tuple #[.slice aa r.1.length c, .int .i64 r.2]) ∧ Tx w' (fun _ => True) aa r.1.length c r.1 ∧ Below w.heap.size w w'
theorem docScan_any (w : World) (a : Option Addr) (n c : Nat) (ys : List Nat) (h : Arg w a n c ys) (hn : n ≤ 16777216) : Calls Tryd.prog 10 #[.slice a n c] w (DScanned w (scan ys)) := by
  refine (docScan_far 0 w a n c ys h hn (fun _ _ _ => Nat.zero_le _)).mono ?_
  rintro e w' ⟨aa, c', he, ht, hb⟩
  exact ⟨aa, c', he, ht.mono (fun _ _ _ => trivial), hb⟩
end Go.Proofs.YthddjfaeacmlhaaDoor
