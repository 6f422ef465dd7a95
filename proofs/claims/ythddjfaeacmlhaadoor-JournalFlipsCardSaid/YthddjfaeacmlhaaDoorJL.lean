/- The walk of JournalFlips. -/
import Derived.Test.YthddjfaeacmlhaaDoorJK
namespace Go.Proofs.YthddjfaeacmlhaaDoor
open Go.RowKit Jr
set_option linter.unusedVariables false

def Part (w : World) (g n i : Nat) (zs : List Nat) : Prop :=
  ∃ cur : Array Value, w.heap[g]? = some (.cells cur 5 (0, 0)) ∧ n ≤ cur.size ∧ ∀ (j y : Nat), j < i → zs[j]? = some y → cur[j]? = some (.int .u8 (y : Int))
theorem Part.bytes {w : World} {g n c : Nat} {zs : List Nat} (h : Part w g n n zs) (hl : zs.length = n) (hz : ∀ z ∈ zs, z < 256) (hc : n ≤ c) : Arg w (some ⟨g, 0, none⟩) n c zs := by
  obtain ⟨cur, h1, h2, h3⟩ := h
  refine ⟨⟨hl, hz, fun hp => ⟨g, 0, rfl, fun j y hj => ?_⟩⟩, hc, fun e => by cases e⟩
  have hjn : j < n := by have := (List.getElem?_eq_some_iff.1 hj).1; omega
  have k := h3 j y hjn hj
  simp [World.cell?, h1, k]
theorem Part.turn {w : World} {g n i y : Nat} {zs : List Nat} (h : Part w g n n zs) (hi : i < n) (hl : zs.length = n) : Part (w.setCell ⟨g, i, none⟩ (.int .u8 (y : Int))) g n n (zs.set i y) := by
  obtain ⟨cur, h1, h2, h3⟩ := h
  refine ⟨cur.setIfInBounds i (.int .u8 (y : Int)), ?_, by simpa using h2, fun j z hj hz => ?_⟩
  · simp only [World.setCell, Array.getElem?_modify, h1]
    simp
  · by_cases e : i = j
    · subst e
      rw [List.getElem?_set_self (by omega)] at hz
      cases hz
      rw [Array.getElem?_setIfInBounds_self_of_lt (by omega)]
    · rw [List.getElem?_set_ne e] at hz
      rw [Array.getElem?_setIfInBounds_ne e]
      exact h3 j z hj hz
theorem own_part {w : World} {B n c : Nat} {aa : Option Addr} {ds : List Nat} (h : w.ownsRow B 5 1 (.slice aa n c) n (bys ds)) (hp : 0 < n) : ∃ g, aa = some ⟨g, 0, none⟩ ∧ B ≤ g ∧ n ≤ c ∧ Part w g n n ds := by
  obtain ⟨hl, h2⟩ := h
  rcases h2 with ⟨_, e2⟩ | ⟨g, cap, cur, e, hB, hh, p1, p2, p3, p4⟩
  · omega
  · cases e
    refine ⟨g, rfl, hB, p1, cur, hh, by omega, fun j y hj hy => ?_⟩
    have hj2 : (bys ds)[j]? = (cur.toList.take (n * 1))[j]? := by rw [p4]
    unfold bys at hj2
    rw [List.getElem?_take_of_lt (by omega), List.getElem?_map, hy] at hj2
    simpa using hj2.symm
theorem below_drew' {B : Nat} {w w1 : World} (h : Below B w w1) : Below B w w1.drew := ⟨h.os, h.tape, h.output, h.size, h.block⟩
theorem below_setc {B : Nat} {w w1 : World} (h : Below B w w1) {g i : Nat} (hg : B ≤ g) (v : Value) : Below B w (w1.setCell ⟨g, i, none⟩ v) :=
  ⟨h.os, h.tape, h.output, by simp [World.setCell]; exact h.size, fun k hk => (Below.heap_setCell _ _ _ _ (by simp only; omega)).trans (h.block k hk)⟩

/-- What is turned so far. -/
structure Turned (w0 : World) (B g : Nat) (p : List Nat) (t v k : Nat) (w : World) : Prop where
  row : ∃ zs : List Nat, zs.length = p.length ∧ Byte zs ∧ Sums.num (big4 p.length ++ zs) = Sums.num (front p) ^^^ (v % 2 ^ k) * 2 ^ (t + 32) ∧ Part w g (p.length + 8) (p.length + 8) ((big4 p.length ++ zs) ++ big4 (Sums.crc (front p)))
  below : Below B w0 w
theorem Turned.skip {w0 w : World} {B g t v k : Nat} {p : List Nat} (h : Turned w0 B g p t v k w) (hb : v / 2 ^ k % 2 = 0) : Turned w0 B g p t v (k + 1) w := by
  obtain ⟨⟨zs, h1, h2, h3, h4⟩, h5⟩ := h
  refine ⟨⟨zs, h1, h2, ?_, h4⟩, h5⟩
  rw [Sums.turn_more, hb, if_neg (by omega), Nat.xor_zero]
  exact h3
theorem Turned.drew {w0 w : World} {B g t v k : Nat} {p : List Nat} (h : Turned w0 B g p t v k w) : Turned w0 B g p t v k w.drew := ⟨h.row, below_drew' h.below⟩
theorem Turned.bit {w0 w : World} {B g t v k q r : Nat} {p : List Nat} (h : Turned w0 B g p t v k w) (hg : B ≤ g) (hb : v / 2 ^ k % 2 = 1) (hq : t + k = 8 * q + r) (hr : r < 8) (hqn : q < p.length) :
    ∃ y : Nat, y < 256 ∧ w.cell? ⟨g, 4 + q, none⟩ = some (.int .u8 (y : Int)) ∧ w.frozen? ⟨g, 4 + q, none⟩ = false ∧ Turned w0 B g p t v (k + 1) (w.setCell ⟨g, 4 + q, none⟩ (.int .u8 ((y ^^^ 2 ^ r : Nat) : Int))) := by
  obtain ⟨⟨zs, h1, h2, h3, h4⟩, h5⟩ := h
  have hl : q < zs.length := by omega
  obtain ⟨cur, k1, k2, k3⟩ := id h4
  have h4l : (big4 p.length).length = 4 := rfl
  have e0 : (big4 p.length ++ zs)[4 + q]? = some zs[q] := by
    rw [List.getElem?_append_right (by omega), h4l, Nat.add_sub_cancel_left]
    exact List.getElem?_eq_getElem hl
  have hlen : (big4 p.length ++ zs).length = 4 + p.length := by rw [List.length_append, h4l, h1]
  have e1 : ((big4 p.length ++ zs) ++ big4 (Sums.crc (front p)))[4 + q]? = some zs[q] := by
    rw [List.getElem?_append_left (by omega)]
    exact e0
  have hc := k3 (4 + q) zs[q] (by omega) e1
  have hy := h2 _ (List.getElem_mem hl)
  have hp : 2 ^ r < 2 ^ 8 := Nat.pow_lt_pow_right (by omega) hr
  have hi : 4 + q < (big4 p.length ++ zs).length := by omega
  have e2 : (big4 p.length ++ zs)[4 + q]'hi = zs[q] := by
    have := List.getElem?_eq_getElem hi
    rw [e0] at this
    exact (Option.some.inj this).symm
  have es : (big4 p.length ++ zs).set (4 + q) (zs[q] ^^^ 2 ^ r) = big4 p.length ++ zs.set q (zs[q] ^^^ 2 ^ r) := by
    rw [List.set_append_right _ _ (by omega), h4l, Nat.add_sub_cancel_left]
  refine ⟨zs[q], hy, by simp [World.cell?, k1, hc], by simp [World.frozen?, k1], ⟨zs.set q (zs[q] ^^^ 2 ^ r), by simpa using h1, ?_, ?_, ?_⟩, below_setc h5 hg _⟩
  · intro z hz
    rcases List.mem_or_eq_of_mem_set hz with hz | rfl
    · exact h2 z hz
    · exact Nat.xor_lt_two_pow (n := 8) hy hp
  · have kt := Sums.num_turn (big4 p.length ++ zs) (4 + q) r hi
    rw [e2, es] at kt
    rw [kt, h3, Sums.turn_more, hb, if_pos rfl, Nat.xor_assoc, show t + 32 + k = 8 * (4 + q) + r by omega]
  · have kt := Part.turn (y := zs[q] ^^^ 2 ^ r) h4 (show 4 + q < p.length + 8 by omega) (by rw [List.length_append, hlen, big4_length]; omega)
    rw [List.set_append_left _ _ hi, es] at kt
    exact kt
/-- When all is turned. -/
theorem Turned.done {w0 w : World} {B g t v : Nat} {p : List Nat} (h : Turned w0 B g p t v 32 w) (hp : Fit p) (hv0 : 1 ≤ v) (hv : v < 4294967296) (ht : t < 8 * p.length) :
    ∃ zs, Part w g (p.length + 8) (p.length + 8) (front zs ++ big4 (Sums.crc (front p))) ∧ Byte zs ∧ zs.length = p.length ∧ head (front zs ++ big4 (Sums.crc (front p))) = none := by
  obtain ⟨⟨zs, h1, h2, h3, h4⟩, h5⟩ := h
  rw [show v % 2 ^ 32 = v from Nat.mod_eq_of_lt hv] at h3
  have ef : big4 p.length ++ zs = front zs := by unfold front; rw [h1]
  rw [ef] at h3 h4
  have hne := Sums.crc_burst (front p) (front zs) (by rw [front_length, front_length, h1]) v (t + 32) hv (by omega) (by rw [front_length]; omega) h3
  exact ⟨zs, h4, h2, h1, head_turned hp h2 h1 (fun e => hne e.symm)⟩
end Go.Proofs.YthddjfaeacmlhaaDoor
