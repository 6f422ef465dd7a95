/- The contract of Scan. -/
import Derived.Test.YthddjfaeacmlhaaDoorJD
import Derived.ScopeJumps
import Derived.WalkMore
namespace Go.Proofs.YthddjfaeacmlhaaDoor
open Go.RowKit Jr
set_option linter.unusedVariables false

theorem Exit.jump_mono {l : Nat} {J J' : Act → World → Prop} {Q : Exit → Act → World → Prop} (h : ∀ a w, J a w → J' a w) : ∀ e a w, Exit.jump l J Q e a w → Exit.jump l J' Q e a w := by
  intro e a w hq
  cases e with
  | goto l' => exact ⟨hq.1, h a w hq.2⟩
  | _ => exact hq
theorem wp_scope_lab {rest : Code} {Q : Exit → Act → World → Prop} {a : Act} {w : World} (l : Nat) (J : Act → World → Prop) (μ : Act → World → Nat) (hJ : J a w)
    (pass : ∀ a w, J a w → rest.wp Tryd.prog (Exit.jump l (fun a' w' => J a' w' ∧ μ a' w' < μ a w) Q) a w) : (Code.scope ((Code.label l).seq rest)).wp Tryd.prog Q a w :=
  wp_scope_jumps l J μ (rest := Code.skip.seq rest) (by simp [findLabel]) (wp_seq (wp_label (Code.wp_mono (Exit.jump_mono fun _ _ h => h.1) (pass a w hJ)))) (fun a w h => wp_seq (wp_skip (pass a w h)))

/-- What Scan tells: payloads in memory of its own, and where the last one ends. -/
def Scanned (w : World) (P : Nat → Prop) (r : List (List Nat) × Nat) (e : Ending) (w' : World) : Prop :=
  ∃ aa c, e = .returned (.tuple #[.slice aa r.1.length c, .int .i64 r.2]) ∧ Tx w' P aa r.1.length c r.1 ∧ Below w.heap.size w w'
/-- Scan under way. -/
structure Sc (w : World) (ys : List Nat) (aa : Option Addr) (k cc E : Nat) (w' : World) : Prop where
  low : E ≤ ys.length
  own : ∃ ps, OwnL w' w.heap.size (fun q => w.heap.size ≤ q ∧ (Value.slice aa k cc).ownBlock ≠ some q) aa k cc ps ∧ scan ys = (ps ++ (scan (ys.drop E)).1, E + (scan (ys.drop E)).2)
  below : Below w.heap.size w w'
  few : 8 * k ≤ E
theorem Sc.start (w : World) (ys : List Nat) : Sc w ys none 0 0 0 w := ⟨Nat.zero_le _, ⟨[], OwnL.nil _ _ _, by rw [List.drop_zero]; simp⟩, Below.refl _ _, Nat.le_refl _⟩
theorem Sc.later {w w1 w2 : World} {ys : List Nat} {aa : Option Addr} {k cc E : Nat} (h : Sc w ys aa k cc E w1) (hb : Below w1.heap.size w1 w2) : Sc w ys aa k cc E w2 := by
  obtain ⟨h1, ⟨ps, h2, h3⟩, h4, h5⟩ := h
  exact ⟨h1, ⟨ps, h2.below hb, h3⟩, below_more h4 hb (Nat.le_refl _), h5⟩
theorem Sc.stop {w w' : World} {ys : List Nat} {aa : Option Addr} {k cc E : Nat} (h : Sc w ys aa k cc E w') (hh : head (ys.drop E) = none) : Scanned w (fun k => w.heap.size ≤ k) (scan ys) (.returned (.tuple #[.slice aa k cc, .int .i64 E])) w' := by
  obtain ⟨h1, ⟨ps, h2, h3⟩, h4, _⟩ := h
  rw [scan_stop h3 hh]
  obtain rfl := h2.1
  exact ⟨aa, cc, rfl, h2.tx.mono (fun k _ h => by rcases h with h | h; exact h; exact h.1), h4⟩
theorem own_at {w : World} {B e size n c : Nat} {aa : Option Addr} {xs : List Value} (h : w.ownsRow B e size (.slice aa n c) n xs) (ad : Addr) (hp : 0 < n) (e2 : aa = some ad) : (Value.slice aa n c).ownBlock = some ad.block ∧ B ≤ ad.block := by
  have hb : (Value.slice aa n c).ownBlock = some ad.block := by rw [e2]; rfl
  exact ⟨hb, (h.lt _ hb).1⟩
/-- One more payload found. -/
theorem Sc.step {w w1 w2 w3 : World} {ys : List Nat} {aa : Option Addr} {k cc E : Nat} (hy : Byte ys) (h : Sc w ys aa k cc E w1) {p : List Nat} (hh : head (ys.drop E) = some p) (hb : Below w1.heap.size w1 w2)
    {aa' : Option Addr} {cap : Nat} {ps : List (List Nat)} (e : scan ys = (ps ++ (scan (ys.drop E)).1, E + (scan (ys.drop E)).2))
    (ho : OwnL w3 w.heap.size (fun k' => (w.heap.size ≤ k' ∧ (Value.slice aa k cc).ownBlock ≠ some k') ∧ k' < w2.heap.size) aa' (k + 1) cap (ps ++ [p])) (hg : w2.grownBy w3 (Value.slice aa k cc).ownBlock)
    (hat : (Value.slice aa' (k + 1) cap).ownBlock = (Value.slice aa k cc).ownBlock ∨ (Value.slice aa' (k + 1) cap).ownBlock = some w2.heap.size) (hown : ∀ g, (Value.slice aa k cc).ownBlock = some g → w.heap.size ≤ g) :
    Sc w ys aa' (k + 1) cap (E + (8 + p.length)) w3 := by
  have hs := head_some (hy.drop E) hh
  rw [List.length_drop] at hs
  refine ⟨by have := hs.2.1; omega, ⟨ps ++ [p], ho.mono ?_, scan_step hy e hh⟩, ?_, by have := h.few; omega⟩
  · intro k' _ hk
    refine ⟨hk.1.1, ?_⟩
    rcases hat with h2 | h2
    · rw [h2]; exact hk.1.2
    · rw [h2]; simp only [ne_eq, Option.some.injEq]; have := hk.2; omega
  · exact grown_below (Nat.le_refl _) (below_more h.below hb (Nat.le_refl _)) hg hown
set_option maxRecDepth 100000 in
set_option maxHeartbeats 3200000 in
theorem scan_any (w : World) (a : Option Addr) (n c : Nat) (ys : List Nat) (h : Arg w a n c ys) (hn : n ≤ 16777216) (hF : Fours w) : Calls Tryd.prog 9 #[.slice a n c] w (Scanned w (fun k => w.heap.size ≤ k) (scan ys)) := by
  have HA := Lib.hid h
  have HF := Lib.hid hF
  have HL := Lib.hid h.len
  have hnc := h.2.1
  have hc0 : ∀ E, E ≤ n → ∃ A, A = (if c = E then a else a.map (fun x => x.add E)) := fun E _ => ⟨_, rfl⟩
  have hz := h.2.2
  clear h hF
  go_enter Tryd.func9, Tryd.ntmps9
  go_wp2_with fail
  refine wp_scope_lab 0 (fun a' w' => ∃ (aa : Option Addr) (k cc E : Nat) (u4 u5 u6 u7 u8 u9 u10 u11 u12 u13 u14 u15 u16 u17 u18 u19 u20 u21 u22 u23 u24 u25 : Value), Sc w ys aa k cc E w' ∧ a' = { tmps := #[.slice a n c, undef, .slice aa k cc, .int .i64 E, u4, u5, u6, u7, u8, u9, u10, u11, u12, u13, u14, u15, u16, u17, u18, u19, u20, u21, u22, u23, u24, u25], defers := [] }) (fun a' _ => n - (intOf (a'.tmps.getD 3 undef)).toNat) ?start ?pass
  case start => exact ⟨none, 0, 0, 0, _, _, _, _, _, _, _, _, _, _, _, _, _, _, _, _, _, _, _, _, _, _, Sc.start w ys, rfl⟩
  case pass =>
    rintro a' wr ⟨aa, k, cc, E, u4, u5, u6, u7, u8, u9, u10, u11, u12, u13, u14, u15, u16, u17, u18, u19, u20, u21, u22, u23, u24, u25, hS, rfl⟩
    have hEl := hS.low
    rw [HL.out] at hEl
    have HS := Lib.hid hS
    obtain ⟨A, hA⟩ := hc0 E hEl
    have CF := first_any wr A (n - E) (c - E) (ys.drop E) (by rw [hA]; exact (HA.out.below hS.below).drop hEl) (by omega) (HF.out.below hS.below)
    replace CF := Lib.hid CF
    have hEi : (E : Int) ≤ n := by omega
    have hEc : (E : Int) ≤ c := by omega
    clear hS
    cases a with
    | none =>
      obtain ⟨rfl, rfl⟩ := hz rfl
      have hl0 := HL.out
      obtain rfl : E = 0 := by omega
      have hh : head (ys.drop 0) = none := head_small (by simp [hl0])
      rw [if_pos rfl] at hA
      subst hA
      clear hl0
      go_wp2_with fail
      refine CF.out.mono ?_
      rintro e w1 ⟨pa, m, pc, rfl, hp, hb⟩
      have X := Lib.hid ((HS.out.later hb).stop hh)
      simp only [hh, Option.isSome_none]
      clear hp hb hh
      go_wp2_with fail
      simp only [Exit.jump]
      go_ret2
      exact X.out
    | some ad =>
      rw [Option.map_some] at hA
      replace hA := hA.symm
      clear hz hc0
      go_wp2_with fail
      refine CF.out.mono ?_
      rintro e w1 ⟨pa, m, pc, rfl, hp, hb⟩
      clear hA
      cases hh : head (ys.drop E) with
      | none =>
        have X := Lib.hid ((HS.out.later hb).stop hh)
        simp only [Option.isSome_none]
        clear hp hb hh
        go_wp2_with fail
        simp only [Exit.jump]
        go_ret2
        exact X.out
      | some p =>
        have HP := Lib.hid ((hp p hh).below hb)
        have HS1 := Lib.hid (HS.out.later hb)
        have hs := head_some (HA.out.byte.drop E) hh
        have hml := HP.out.len
        rw [hml, List.length_drop, HL.out] at hs
        have hm8 : m + 8 ≤ n - E := hs.2.1
        have HH := Lib.hid hh
        have HPL := Lib.hid hml
        simp only [Option.isSome_some]
        clear hp hb hh hs hml
        go_wp2_with (at_builtin; go_must (refine wpList_append_text rfl (.const (.slice none 0 0)) (.tmp 15) rfl w1.heap.size 0 (.slice none 0 0) [] rfl (World.ownsRow_nil _ _ _ _) pa m pc p rfl HP.out.1 HP.out.2.2 (by omega) (by omega) (Nat.le_refl _) ?e4))
        intro a2 c2 w2 hown2 hg2 hat2
        have hb2 : Below w1.heap.size w1 w2 := grown_below (Nat.le_refl _) (Below.refl _ _) hg2 (fun k e => by simp [Value.ownBlock] at e)
        have harg2 := arg_of_own hown2 HP.out.byte
        obtain ⟨w3, hw3⟩ : ∃ w3, w3 = w2.alloc (.cells #[.slice a2 m c2] 22) := ⟨_, rfl⟩
        have hb3 : Below w1.heap.size w1 w3 := by rw [hw3]; exact hb2.alloc hb2.size _
        have hS3 := HS1.out.later hb3
        obtain ⟨ps, ho3, he3⟩ := hS3.own
        have hlt3 := HS1.out.own
        obtain ⟨ps1, ho1, hq1⟩ := hlt3
        have hown1 : ∀ g, (Value.slice aa k cc).ownBlock = some g → w.heap.size ≤ g ∧ g < w1.heap.size := by
          obtain ⟨_, vs, hv, _⟩ := ho1
          exact fun g e => hv.lt g e
        have hbw := HS1.out.below.size
        have hTx : Tx w3 (fun q => (w.heap.size ≤ q ∧ (Value.slice aa k cc).ownBlock ≠ some q) ∧ q < w3.heap.size) (some ⟨w2.heap.size, 0, none⟩) 1 1 [p] := by
          rw [hw3]
          refine one_tx harg2 ?_ ?_
          · intro ad h0 e
            have k1 := own_at hown2 ad h0 e
            have k2 := harg2.lt ad h0 e
            refine ⟨⟨by omega, fun e2 => ?_⟩, by simp; omega⟩
            have := (hown1 _ e2).2; omega
          · refine ⟨⟨by have := hb2.size; omega, fun e2 => ?_⟩, by simp⟩
            have := (hown1 _ e2).2; have := hb2.size; omega
        have hk8 := HS1.out.few
        have HO3 := Lib.hid (ho3.mono (Q := fun q => (w.heap.size ≤ q ∧ (Value.slice aa k cc).ownBlock ≠ some q) ∧ q < w3.heap.size) (fun q hq h => ⟨h, hq⟩))
        have HT3 := Lib.hid hTx
        have HW3 := Lib.hid hw3
        have hs3 : w.heap.size ≤ w3.heap.size := Nat.le_trans hbw hb3.size
        have HN3 := Lib.hid (And.intro hb3 (And.intro he3 hown1))
        clear hown2 hg2 hat2 hb2 harg2 hb3 hS3 ho3 he3 ho1 hown1 hTx hbw hq1 ps1 hw3
        go_wp2_with (at_builtin; go_must (rw [← HW3.out]; refine wpList_append_items rfl (.tmp 14) (.tmp 17) rfl w.heap.size (fun q => (w.heap.size ≤ q ∧ (Value.slice aa k cc).ownBlock ≠ some q) ∧ q < w3.heap.size) aa k cc ps rfl HO3.out (some ⟨w2.heap.size, 0, none⟩) 1 1 [p] rfl HT3.out (by omega) (by omega) hs3 (fun q h => h.1.2) ?f6))
        intro a4 c4 w4 ho4 hg4 hat4
        obtain ⟨hb3, he3, hown1⟩ := HN3.out
        have X := HS1.out.step HA.out.byte HH.out hb3 he3 ho4 hg4 hat4 (fun g e => (hown1 g e).1)
        rw [HPL.out] at X
        have X := Lib.hid X
        clear ho4 hg4 hat4 hb3 he3 hown1
        go_wp2_with fail
        go_step3
        refine ⟨rfl, ⟨a4, k + 1, c4, E + (8 + m), _, _, _, _, _, _, _, _, _, _, _, _, _, _, _, _, _, _, _, _, _, _, X.out, rfl⟩, ?_⟩
        show n - ((E : Int) + (8 + (m : Int))).toNat < n - (E : Int).toNat
        omega
end Go.Proofs.YthddjfaeacmlhaaDoor
