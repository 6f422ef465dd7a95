/- What Lengths is to say; the document's examples. -/
import Derived.Test.YtoiknbbimgeihaaJ
namespace Go.Proofs.Ytoiknbbimgeihaa
open Go.RowKit
set_option linter.unusedVariables false

/-- The symbols whose count is above 0; their counts; their lengths. -/
def posI (zs : List Int) : List Nat := (List.range zs.length).filter (fun i => decide (0 < zs.getD i 0))
def wsOf (zs : List Int) : List Nat := (posI zs).map (fun i => (zs.getD i 0).toNat)
def esOf (zs ls : List Int) : List Nat := (posI zs).map (fun i => (ls.getD i 0).toNat)
/-- Lengths that cost least. -/
structure Best (zs ls : List Int) (most : Nat) : Prop where
  len : ls.length = zs.length
  zero : ∀ i, i < zs.length → zs.getD i 0 = 0 → ls.getD i 0 = 0
  pos : ∀ i, i < zs.length → 0 < zs.getD i 0 → 1 ≤ ls.getD i 0 ∧ ls.getD i 0 ≤ most
  may : Huff.May most (wsOf zs) (esOf zs ls)
  best : ∀ fs, Huff.May most (wsOf zs) fs → Huff.dot (wsOf zs) (esOf zs ls) ≤ Huff.dot (wsOf zs) fs
/-- Counts that have lengths. -/
def good (zs : List Int) (most : Int) : Bool := decide (1 ≤ most ∧ most ≤ 16 ∧ zs.length ≤ 300 ∧ (∀ z ∈ zs, 0 ≤ z ∧ z ≤ 1099511627776) ∧ (posI zs).length ≤ 2 ^ most.toNat)
def LengthsSay (w : World) (n : Nat) (zs : List Int) (most : Int) (e : Ending) (w' : World) : Prop :=
  if good zs most = true then ∃ aa cap ls, e = .returned (.tuple #[.slice aa n cap, .bool true]) ∧ Ints w' aa n ls ∧ n ≤ cap ∧ Best zs ls most.toNat ∧ Below w.heap.size w w'
  else ∃ aa cap, e = .returned (.tuple #[.slice aa 0 cap, .bool false]) ∧ Below w.heap.size w w'
def LengthsSays : Prop := ∀ w a n c zs most, Ints w a n zs → n ≤ 16777216 → -9223372036854775808 ≤ most → most ≤ 9223372036854775807 → Calls Try.prog 11 #[.slice a n c, .int .i64 most] w (LengthsSay w n zs most)

theorem ex_codes : codesZ [1, 3, 3, 0, 2] = [0, 6, 7, 0, 2] := by decide +kernel
theorem ex_may : mayCode [1, 3, 3, 0, 2] = true := by decide +kernel
theorem ex_good : good [5, 1, 1, 0, 1] 3 = true := by decide +kernel
theorem ex_ws : wsOf [5, 1, 1, 0, 1] = [5, 1, 1, 1] := by decide +kernel
theorem ex_es (a b c d e : Int) : esOf [5, 1, 1, 0, 1] [a, b, c, d, e] = [a.toNat, b.toNat, c.toNat, e.toNat] := by
  have h : posI [5, 1, 1, 0, 1] = [0, 1, 2, 4] := by decide +kernel
  unfold esOf
  rw [h]
  rfl
theorem ex_small : ∀ a b c e : Fin 4, 1 ≤ a.val → 1 ≤ b.val → 1 ≤ c.val → 1 ≤ e.val → Huff.kraft 3 [a.val, b.val, c.val, e.val] ≤ 8 → Huff.dot [5, 1, 1, 1] [a.val, b.val, c.val, e.val] ≤ 13 → a.val = 1 ∧ b.val + c.val + e.val = 8 := by decide +kernel
theorem ex_best (ls : List Int) (h : Best [5, 1, 1, 0, 1] ls 3) : ∃ b c e : Int, ls = [1, b, c, 0, e] ∧ (1 ≤ b ∧ b ≤ 3) ∧ (1 ≤ c ∧ c ≤ 3) ∧ (1 ≤ e ∧ e ≤ 3) ∧ b + c + e = 8 := by
  obtain ⟨h1, h2, h3, h4, h5⟩ := h
  match ls, h1 with
  | [a, b, c, d, e], _ =>
    have hd := h2 3 (by decide) (by decide)
    have ha := h3 0 (by decide) (by decide)
    have hb := h3 1 (by decide) (by decide)
    have hc := h3 2 (by decide) (by decide)
    have he := h3 4 (by decide) (by decide)
    simp only [List.getD_cons_zero, List.getD_cons_succ] at hd ha hb hc he
    rw [ex_ws, ex_es] at h4 h5
    have hm : Huff.May 3 [5, 1, 1, 1] [1, 3, 3, 2] := ⟨rfl, by decide, by decide, by decide⟩
    have k := h5 _ hm
    have k2 : Huff.dot [5, 1, 1, 1] [1, 3, 3, 2] = 13 := by decide
    rw [k2] at k
    have r := h4.room
    obtain ⟨a1, rfl⟩ := Int.eq_ofNat_of_zero_le (show 0 ≤ a by omega)
    obtain ⟨b1, rfl⟩ := Int.eq_ofNat_of_zero_le (show 0 ≤ b by omega)
    obtain ⟨c1, rfl⟩ := Int.eq_ofNat_of_zero_le (show 0 ≤ c by omega)
    obtain ⟨e1, rfl⟩ := Int.eq_ofNat_of_zero_le (show 0 ≤ e by omega)
    simp only [Int.toNat_natCast] at k r
    have q := ex_small ⟨a1, by omega⟩ ⟨b1, by omega⟩ ⟨c1, by omega⟩ ⟨e1, by omega⟩ (by simp only; omega) (by simp only; omega) (by simp only; omega) (by simp only; omega) r k
    simp only at q
    refine ⟨b1, c1, e1, ?_, by omega, by omega, by omega, by omega⟩
    rw [hd, q.1]
    rfl
theorem lit5 (w : World) (a b c d e : Int) (h : ∀ z ∈ [a, b, c, d, e], -9223372036854775808 ≤ z ∧ z ≤ 9223372036854775807) : Ints (w.alloc (.cells #[.int .i64 a, .int .i64 b, .int .i64 c, .int .i64 d, .int .i64 e] 3)) (some ⟨w.heap.size, 0, none⟩) 5 [a, b, c, d, e] := by
  refine ⟨rfl, h, fun _ => ⟨_, 0, rfl, fun j z hj => ?_⟩⟩
  rw [World.cell?_alloc_mark, Nat.zero_add]
  match j, hj with
  | 0, hj => cases hj; rfl
  | 1, hj => cases hj; rfl
  | 2, hj => cases hj; rfl
  | 3, hj => cases hj; rfl
  | 4, hj => cases hj; rfl
  | j + 5, hj => simp at hj

set_option maxRecDepth 100000 in
set_option maxHeartbeats 1600000 in
theorem anchor_says (HC : CodesSays) (HL : LengthsSays) : AnchorSays := by
  intro w
  have C1 := HC _ _ 5 5 _ (lit5 w 1 3 3 0 2 (by intro z hz; simp at hz; omega)) (by omega)
  unfold CodesSay at C1
  rw [ex_may, ex_codes] at C1
  simp only [if_true] at C1
  have C1 := Lib.hid C1
  have HL := Lib.hid HL
  have kb : Below w.heap.size w (w.alloc (.cells #[.int .i64 1, .int .i64 3, .int .i64 3, .int .i64 0, .int .i64 2] 3)) := (Below.refl _ _).alloc (Nat.le_refl _) _
  have KB := Lib.hid kb
  clear kb HC
  go_enter Try.func10, Try.ntmps10
  go_wp2_with fail
  refine C1.out.mono ?_
  rintro e w1 ⟨aa, cap, rfl, hi, hcap, hb⟩
  have K1 := below_more KB.out hb (Nat.le_refl _)
  have C2 := HL.out _ _ 5 5 _ 3 (lit5 w1 5 1 1 0 1 (by intro z hz; simp at hz; omega)) (by omega) (by omega) (by omega)
  unfold LengthsSay at C2
  rw [ex_good] at C2
  simp only [if_true] at C2
  have C2 := Lib.hid C2
  have HI := Lib.hid hi
  have K2 := Lib.hid (K1.alloc (by have := K1.size; omega) (.cells #[.int .i64 5, .int .i64 1, .int .i64 1, .int .i64 0, .int .i64 1] 3))
  clear hi hb K1
  go_wp2_with fail
  refine C2.out.mono ?_
  rintro e w2 ⟨ab, cap2, ls, rfl, hls, hcap2, hbest, hb2⟩
  obtain ⟨lb, lc, le, rfl, h1, h2, h3, h4⟩ := ex_best ls hbest
  have K3 := Lib.hid (below_more K2.out hb2 (Nat.le_refl _))
  obtain ⟨p1, o1, rfl, k1⟩ := ((HI.out.later (w' := w1.alloc (.cells #[.int .i64 5, .int .i64 1, .int .i64 1, .int .i64 0, .int .i64 1] 3)) (fun k hk => Below.heap_alloc _ _ _ hk)).below hb2).2.2 (by omega)
  obtain ⟨p2, o2, rfl, k2⟩ := hls.2.2 (by omega)
  have a0 := k1 0 0 rfl
  have a1 := k1 1 6 rfl
  have a2 := k1 2 7 rfl
  have a4 := k1 4 2 rfl
  have c0 := k2 0 1 rfl
  have c1 := k2 1 lb rfl
  have c2 := k2 2 lc rfl
  have c3 := k2 3 0 rfl
  have c4 := k2 4 le rfl
  clear k1 k2 hls hbest hb2
  rw [Nat.add_zero] at a0 c0
  have e8 : lb + lc + le = 8 := h4
  have w1' : wrap64 (lb + lc) = lb + lc := IntWalk.wrap64_in _ (by omega)
  have w2' : IntKind.i64.wrap (lb + lc) = lb + lc := wrap_i64 _ (by omega) (by omega)
  go_wp2
  go_quiet (fail)
  go_wp2
  go_ret
  exact ⟨rfl, ⟨K3.out.os, K3.out.tape, K3.out.output, K3.out.size, K3.out.block⟩⟩
end Go.Proofs.Ytoiknbbimgeihaa
