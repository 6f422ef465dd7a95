/- What See and the document's See tell, in one form. -/
import Derived.Test.YtfcndldobjpbnaaLSA
import Derived.Test.YtfcndldobjpbnaaZD
namespace Go.Proofs.Ytfcndldobjpbnaa
open Go.RowKit Go.Maps
set_option linter.unusedVariables false

def SeeTold (x y : Int) (k : Nat) (xs : List Int) (code : Int) (w : World) (e : Ending) (w' : World) : Prop :=
  ∃ aa cap, e = .returned (.tuple #[.agg #[.int .i64 x, .int .i64 y, .slice aa k cap], .int .i64 code]) ∧ Ints w' aa k xs ∧ Keeps none' w w' ∧ ∀ b off, aa = some ⟨b, off, none⟩ → w.heap.size ≤ b
theorem SeeFar.told {pw ph : Int} {k : Nat} {xs : List Int} {w : World} {e : Ending} {w' : World} (h : SeeFar pw ph k xs w e w') : SeeTold pw ph k xs 0 w e w' := h
theorem SeeNo.told {c : Int} {w : World} {e : Ending} {w' : World} (h : SeeNo c w e w') : SeeTold 0 0 0 [] c w e w' :=
  ⟨none, 0, h.1, ⟨rfl, fun z hz => (by cases hz), fun h => absurd h (Nat.lt_irrefl 0)⟩, h.2, fun b off e => (by cases e)⟩
theorem docSee_no (W H : Int) (a : Option Addr) (n c : Nat) (zs : List Int) (m : Af.M) (pw ph : Int) (s : Bool) (w : World) (hz : Ints w a n zs) (hn : n ≤ 16777216) (he : Af.seeE W H zs m pw ph ≠ 0) :
    Calls Try.prog 23 #[.agg #[.int .i64 W, .int .i64 H, .slice a n c], .agg #[.int .i64 m.a, .int .i64 m.b, .int .i64 m.c, .int .i64 m.d, .int .i64 m.e, .int .i64 m.f], .int .i64 pw, .int .i64 ph, .bool s] w (SeeNo (Af.seeE W H zs m pw ph) w) := by
  unfold Af.seeE at *
  by_cases h1 : (Af.backE m).2 = 0
  · rw [if_neg (by omega)] at *
    by_cases h2 : Af.sizeOk pw ph
    · rw [if_neg (fun h => h h2)] at *
      by_cases h3 : PicOk W H zs
      · rw [if_neg (fun h => h h3)] at he
        exact absurd rfl he
      · rw [if_pos h3]
        exact seeD_form W H a n c zs m pw ph s w h1 h2 hz hn h3
    · rw [if_pos h2]
      exact seeD_size W H a n c zs m pw ph s w h1 h2
  · rw [if_pos h1]
    exact seeD_flat W H a n c zs m pw ph s w h1
/-- See and the document's See tell the same: each pixel as it is seen, or the first error and nothing. -/
theorem see_both (W H : Int) (n : Nat) (zs : List Int) (m : Af.M) (pw ph : Int) (s : Bool) (hn : n ≤ 2000) (hk : Af.sizeOk pw ph → pw.toNat * ph.toNat ≤ 2000) :
    ∃ (x y : Int) (k : Nat) (xs : List Int) (code : Int), k ≤ 2000 ∧ xs.length = k ∧
      (∀ i z, xs[i]? = some z → ((Af.backE m).2 = 0 ∧ PicOk W H zs) ∧ 0 < pw.toNat ∧ i % pw.toNat ≤ 2000 ∧ i / pw.toNat ≤ 2000 ∧ Af.seen W H zs (Af.backE m).1 s ((i % pw.toNat : Nat) : Int) ((i / pw.toNat : Nat) : Int) = z) ∧
      (∀ (a : Option Addr) (c : Nat) (w : World), Ints w a n zs → Calls Try.prog 22 #[.agg #[.int .i64 W, .int .i64 H, .slice a n c], .agg #[.int .i64 m.a, .int .i64 m.b, .int .i64 m.c, .int .i64 m.d, .int .i64 m.e, .int .i64 m.f], .int .i64 pw, .int .i64 ph, .bool s] w (SeeTold x y k xs code w)) ∧
      (∀ (a : Option Addr) (c : Nat) (w : World), Ints w a n zs → Calls Try.prog 23 #[.agg #[.int .i64 W, .int .i64 H, .slice a n c], .agg #[.int .i64 m.a, .int .i64 m.b, .int .i64 m.c, .int .i64 m.d, .int .i64 m.e, .int .i64 m.f], .int .i64 pw, .int .i64 ph, .bool s] w (SeeTold x y k xs code w)) := by
  by_cases he : Af.seeE W H zs m pw ph = 0
  · obtain ⟨h1, h2, h3⟩ := seeE_ok he
    refine ⟨pw, ph, pw.toNat * ph.toNat, Af.seenTo W H zs (Af.backE m).1 s pw.toNat (pw.toNat * ph.toNat), 0, hk h2, Af.seenTo_length _ _ _ _ _ _ _, ?_, fun a c w hz => (seeP_far W H a n c zs m pw ph s w h1 h2 hz (by omega) h3).mono fun e w' h => h.told, fun a c w hz => (seeD_far W H a n c zs m pw ph s w h1 h2 hz (by omega) h3).mono fun e w' h => h.told⟩
    intro i z hz
    have hi : i < pw.toNat * ph.toNat := by
      have := (List.getElem?_eq_some_iff.1 hz).1
      rwa [Af.seenTo_length] at this
    have hk' := hk h2
    have hp : 0 < pw.toNat := by
      rcases Nat.eq_zero_or_pos pw.toNat with h | h
      · rw [h, Nat.zero_mul] at hi; omega
      · exact h
    have l1 := Nat.mod_le i pw.toNat
    have l2 := Nat.div_le_self i pw.toNat
    refine ⟨⟨h1, h3⟩, hp, by omega, by omega, ?_⟩
    unfold Af.seenTo at hz
    rw [List.getElem?_map, List.getElem?_range hi] at hz
    exact Option.some.inj hz
  · exact ⟨0, 0, 0, [], _, by omega, rfl, fun i z hz => (by simp at hz), fun a c w hz => (see_no W H a n c zs m pw ph s w hz (by omega) he).mono fun e w' h => h.told, fun a c w hz => (docSee_no W H a n c zs m pw ph s w hz (by omega) he).mono fun e w' h => h.told⟩
end Go.Proofs.Ytfcndldobjpbnaa
