/- A decoder in memory: a struct that leads to its ways; the contract of Step. -/
import Derived.Test.YtoiknbbimgeihaaYA
import Derived.Test.YtoiknbbimgeihaaXG
import Derived.Test.YtoiknbbimgeihaaQ
namespace Go.Proofs.Ytoiknbbimgeihaa
open Go.RowKit
set_option linter.unusedVariables false

theorem ofInt_i64 (a : Nat) (ha : a < 9223372036854775808) : (BitVec.ofInt 64 (a : Int)).toNat = a := by
  rw [BitVec.toNat_ofInt]
  omega
theorem i64_and_nat (a b : Nat) (ha : a < 9223372036854775808) (hb : b < 9223372036854775808) : bits .and .i64 (a : Int) (b : Int) = ((a &&& b : Nat) : Int) := by
  have hx : a &&& b < 2 ^ 63 := Nat.and_lt_two_pow _ (by omega)
  show IntKind.i64.wrap ((BitVec.ofInt 64 (a : Int) &&& BitVec.ofInt 64 (b : Int)).toNat : Int) = _
  rw [BitVec.toNat_and, ofInt_i64 a ha, ofInt_i64 b hb, wrap_i64 _ (by omega) (by omega)]
theorem i64_odd (a : Nat) (ha : a < 9223372036854775808) : bits .and .i64 (a : Int) 1 = ((a % 2 : Nat) : Int) := by
  have := i64_and_nat a 1 ha (by omega)
  rw [Nat.and_one_is_mod] at this
  exact this

theorem i64_not (z : Int) (hz : -16777217 ≤ z ∧ z ≤ 16777217) : bits .xor .i64 (-1) z = -z - 1 := by
  show IntKind.i64.wrap ((BitVec.ofInt 64 (-1) ^^^ BitVec.ofInt 64 z).toNat : Int) = _
  rw [show BitVec.ofInt 64 (-1) = BitVec.allOnes 64 from by decide, BitVec.allOnes_xor, BitVec.toNat_not, BitVec.toNat_ofInt]
  simp only [IntKind.wrap, IntKind.bits, IntKind.signed]
  simp
  omega

/-- The ways of a decoder, as they lie: two for each state. -/
def wayOf (cs : List Int) (st b : Nat) : Int := cs.getD (st * 2 + b) 0
/-- A decoder in memory. -/
structure Dec (w : World) (B D : Nat) (v : Value) (m : Nat) (cs : List Int) : Prop where
  at_ : B ≤ D
  blk : w.heap[D]? = some (.cells #[v] 48 (0, 0))
  own : w.ownsRow B 50 2 v m (vals cs)
  apart : v.ownBlock ≠ some D
theorem own_lt2 {w : World} {B n e k : Nat} {v : Value} {xs : List Value} (h : w.ownsRow B e k v n xs) : ∀ g, v.ownBlock = some g → B ≤ g ∧ g < w.heap.size := by
  intro g hg
  rcases h.2 with ⟨rfl, _⟩ | ⟨g, cap, cur, rfl, hb, hh, _⟩
  · cases hg
  · cases hg
    exact ⟨hb, lt_of_block hh⟩
theorem own_kept2 {w w' : World} {B n e k : Nat} {v : Value} {xs : List Value} (h : w.ownsRow B e k v n xs) (hk : ∀ g, v.ownBlock = some g → w'.heap[g]? = w.heap[g]?) : w'.ownsRow B e k v n xs := by
  obtain ⟨h1, h2⟩ := h
  refine ⟨h1, ?_⟩
  rcases h2 with h2 | ⟨g, cap, cur, rfl, hg, hh, r⟩
  · exact Or.inl h2
  · exact Or.inr ⟨g, cap, cur, rfl, hg, (hk g rfl).trans hh, r⟩
theorem Dec.lt {w : World} {B D m : Nat} {v : Value} {cs : List Int} (h : Dec w B D v m cs) : D < w.heap.size := lt_of_block h.blk
theorem Dec.later {w w' : World} {B D m : Nat} {v : Value} {cs : List Int} (h : Dec w B D v m cs) (hk : ∀ k, k < w.heap.size → w'.heap[k]? = w.heap[k]?) : Dec w' B D v m cs :=
  ⟨h.at_, (hk D h.lt).trans h.blk, own_kept2 h.own (fun g e => hk g (own_lt2 h.own g e).2), h.apart⟩
theorem Dec.length {w : World} {B D m : Nat} {v : Value} {cs : List Int} (h : Dec w B D v m cs) : cs.length = m * 2 := by
  have := h.own.1
  rwa [vals_length] at this
/-- What a walk reads of one. -/
theorem Dec.open {w : World} {B D m : Nat} {v : Value} {cs : List Int} (h : Dec w B D v m cs) (hm : 0 < m) : ∃ g cap, v = .slice (some ⟨g, 0, none⟩) m cap ∧ B ≤ g ∧ g ≠ D ∧ g < w.heap.size ∧ m ≤ cap ∧
    w.cell? ⟨D, 0, none⟩ = some (.slice (some ⟨g, 0, none⟩) m cap) ∧ w.frozen? ⟨D, 0, none⟩ = false ∧
    ∀ st b, st < m → b < 2 → w.cell? ⟨g, st * 2 + b, none⟩ = some (.int .i64 (wayOf cs st b)) ∧ w.frozen? ⟨g, st * 2 + b, none⟩ = false := by
  have hb := h.blk
  have hl := h.length
  have ha := h.apart
  obtain ⟨-, h2⟩ := h.own
  rcases h2 with ⟨_, e2⟩ | ⟨g, cap, cur, rfl, hB, hh, p1, p2, p3, p4⟩
  · omega
  · refine ⟨g, cap, rfl, hB, fun e => ha (by rw [e]; rfl), lt_of_block hh, p1, by simp [World.cell?, hb], by simp [World.frozen?, hb], fun st b hs hb2 => ?_⟩
    have hi : st * 2 + b < m * 2 := by omega
    have hj : (vals cs)[st * 2 + b]? = (cur.toList.take (m * 2))[st * 2 + b]? := by rw [p4]
    unfold vals at hj
    rw [List.getElem?_take_of_lt hi, List.getElem?_map, List.getElem?_eq_getElem (by omega)] at hj
    have hj3 : cur[st * 2 + b]? = some (.int .i64 (wayOf cs st b)) := by
      unfold wayOf
      rw [List.getD_eq_getElem?_getD, List.getElem?_eq_getElem (by omega)]
      simpa using hj.symm
    exact ⟨by simp [World.cell?, hh, hj3], by simp [World.frozen?, hh]⟩
/-- One way set. -/
theorem Dec.set {w : World} {B D m g cap : Nat} {cs : List Int} (h : Dec w B D (.slice (some ⟨g, 0, none⟩) m cap) m cs) {st b : Nat} (hs : st < m) (hb : b < 2) (z : Int) :
    Dec (w.setCell ⟨g, st * 2 + b, none⟩ (.int .i64 z)) B D (.slice (some ⟨g, 0, none⟩) m cap) m (cs.set (st * 2 + b) z) := by
  have hne : D ≠ g := fun e => h.apart (by rw [e]; rfl)
  refine ⟨h.at_, (Below.heap_setCell _ _ _ _ (by simpa using hne)).trans h.blk, ?_, h.apart⟩
  obtain ⟨h1, h2⟩ := h.own
  refine ⟨by rw [vals_length, List.length_set]; rw [vals_length] at h1; exact h1, ?_⟩
  rcases h2 with ⟨e, _⟩ | ⟨g', cap', cur, e, hB, hh, p1, p2, p3, p4⟩
  · cases e
  · cases e
    refine Or.inr ⟨g, cap, _, rfl, hB, block_set hh _, p1, p2, by simpa using p3, ?_⟩
    rw [show (cur.setIfInBounds (st * 2 + b) (.int .i64 z)).toList = cur.toList.set (st * 2 + b) (.int .i64 z) by simp, List.take_set, p4]
    unfold vals
    rw [List.map_set]
theorem wayOf_set (cs : List Int) (st b st' b' : Nat) (z : Int) (hb : b < 2) (hb' : b' < 2) (hl : st * 2 + b < cs.length) : wayOf (cs.set (st * 2 + b) z) st' b' = if st' = st ∧ b' = b then z else wayOf cs st' b' := by
  unfold wayOf
  rw [List.getD_eq_getElem?_getD, List.getD_eq_getElem?_getD]
  by_cases h : st' = st ∧ b' = b
  · rw [if_pos h, h.1, h.2, List.getElem?_set_self hl]; rfl
  · rw [if_neg h, List.getElem?_set_ne (by omega)]
theorem wayOf_more (cs : List Int) (m st b : Nat) (hl : cs.length = m * 2) (hb : b < 2) : wayOf (cs ++ [0, 0]) st b = if st = m then 0 else wayOf cs st b := by
  unfold wayOf
  rw [List.getD_eq_getElem?_getD, List.getD_eq_getElem?_getD]
  by_cases h : st = m
  · rw [if_pos h, List.getElem?_append_right (by omega), show st * 2 + b - cs.length = b by omega]
    match b, hb with
    | 0, _ => rfl
    | 1, _ => rfl
  · rw [if_neg h]
    rcases Nat.lt_or_ge (st * 2 + b) cs.length with h1 | h1
    · rw [List.getElem?_append_left h1]
    · rw [List.getElem?_eq_none h1, List.getElem?_eq_none (by rw [List.length_append]; simp only [List.length_cons, List.length_nil]; omega)]

/-- What Step answers. -/
def stepOf (m : Nat) (cs : List Int) (st : Int) (b : Nat) : Int × Int :=
  if 0 ≤ st ∧ st < m then (if wayOf cs st.toNat b = 0 then (-1, -1) else if wayOf cs st.toNat b < 0 then (0, -(wayOf cs st.toNat b) - 1) else (wayOf cs st.toNat b, -1)) else (-1, -1)

set_option maxRecDepth 100000 in
set_option maxHeartbeats 1600000 in
theorem step_any (w : World) (B D m : Nat) (v : Value) (cs : List Int) (h : Dec w B D v m cs) (hm : 0 < m) (hm2 : m ≤ 16777216) (hc : ∀ z ∈ cs, -16777216 ≤ z ∧ z ≤ 16777216) (st bit : Int) (b : Nat) (hb : b < 2) (hbit : bits .and .i64 bit 1 = (b : Int)) :
    Calls Try.prog 19 #[.pointer (some ⟨D, 0, none⟩), .int .i64 st, .int .i64 bit] w fun e w' => e = .returned (.tuple #[.int .i64 (stepOf m cs st b).1, .int .i64 (stepOf m cs st b).2]) ∧ w' = w := by
  obtain ⟨g, cap, rfl, hB, hgD, hgl, hmc, c0, f0, hcell⟩ := h.open hm
  by_cases hin : 0 ≤ st ∧ st < m
  · obtain ⟨s, rfl⟩ := Int.eq_ofNat_of_zero_le hin.1
    have hs : s < m := by omega
    have e : stepOf m cs (s : Int) b = if wayOf cs s b = 0 then (-1, -1) else if wayOf cs s b < 0 then (0, -(wayOf cs s b) - 1) else (wayOf cs s b, -1) := by
      unfold stepOf
      rw [if_pos hin, Int.toNat_natCast]
    obtain ⟨hcw, -⟩ := hcell s b hs hb
    have hwb : -16777216 ≤ wayOf cs s b ∧ wayOf cs s b ≤ 16777216 := by
      unfold wayOf
      rw [List.getD_eq_getElem?_getD]
      cases hz : cs[s * 2 + b]? with
      | none => simp
      | some z => exact hc z (List.mem_of_getElem? hz)
    rw [e]
    generalize wayOf cs s b = z at *
    have u0 : decide ((s : Int) < 0) = false := by simp
    have u1 : decide ((m : Int) ≤ (s : Int)) = false := decide_eq_false (by omega)
    clear hcell hc h e hin
    by_cases h0 : z = 0
    · subst h0
      rw [if_pos rfl]
      go_enter Try.func19, Try.ntmps19
      go_wp2
      go_ret2
      exact ⟨rfl, rfl⟩
    · rw [if_neg h0]
      have v0 : decide (z = 0) = false := decide_eq_false h0
      have v1 : (z == 0) = false := by simpa using h0
      by_cases hn : z < 0
      · rw [if_pos hn]
        have v2 : decide (z < 0) = true := decide_eq_true hn
        go_enter Try.func19, Try.ntmps19
        go_wp2
        go_ret2
        exact ⟨by rw [← i64_not z (by omega)]; rfl, rfl⟩
      · rw [if_neg hn]
        have v2 : decide (z < 0) = false := decide_eq_false hn
        go_enter Try.func19, Try.ntmps19
        go_wp2
        go_ret2
        exact ⟨rfl, rfl⟩
  · have e : stepOf m cs st b = (-1, -1) := by unfold stepOf; rw [if_neg hin]
    rw [e]
    clear hcell hc h e
    by_cases h0 : st < 0
    · have u0 : decide (st < 0) = true := decide_eq_true h0
      clear hin
      go_enter Try.func19, Try.ntmps19
      go_wp2
      go_ret2
      exact ⟨rfl, rfl⟩
    · have u0 : decide (st < 0) = false := decide_eq_false h0
      have u1 : decide ((m : Int) ≤ st) = true := decide_eq_true (by omega)
      clear hin
      go_enter Try.func19, Try.ntmps19
      go_wp2
      go_ret2
      exact ⟨rfl, rfl⟩
end Go.Proofs.Ytoiknbbimgeihaa
